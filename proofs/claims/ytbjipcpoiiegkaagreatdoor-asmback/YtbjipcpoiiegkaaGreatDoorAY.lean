/- asm.Parse, readLines given. Plain: what the two ReadHeads read, word by word, and that it is the same. A region that draws its order, within a round of a loop over a function: by what each of its operations leaves, whatever order is drawn. -/
import Derived.Test.YtbjipcpoiiegkaaGreatDoorCRd
import Derived.Test.YtbjipcpoiiegkaaGreatDoorAJ
import Derived.Test.YtbjipcpoiiegkaaGreatDoorAN
import Derived.Test.YtbjipcpoiiegkaaGreatDoorRI
import Derived.RangeFuncNested
import Derived.RangeFuncBound
import Derived.RangeFuncCalls
import Derived.RangeFuncLeaves
import Derived.WalkKit
import Derived.OrdersIn
namespace Go.Proofs.YtbjipcpoiiegkaaGreatDoor
open Go.RowKit
def noScr : Scr := ⟨[], []⟩
/-- What Parse tells, of what readLines tells. -/
def parseR (t : List UInt8) (r : Scr × Int) : Scr × Int := if 65536 < t.length then (noScr, -1) else if r.2 = 0 ∧ r.1.right = false then (noScr, -2) else r
/-- What lies from block B on. -/
def upF (B : Nat) (C : Addr → Option Value) : Addr → Option Value := fun a => if B ≤ a.block then C a else none
theorem upF_all {B : Nat} {C : Addr → Option Value} : ∀ a v, upF B C a = some v → C a = some v := fun a v h => by
  unfold upF at h
  split at h
  · exact h
  · cases h
theorem upF_keep {B B' : Nat} {C C' : Addr → Option Value} (hB : B' ≤ B) (h : ∀ a v, B ≤ a.block → C a = some v → C' a = some v) : ∀ a v, upF B C a = some v → upF B' C' a = some v := fun a v e => by
  unfold upF at e ⊢
  split at e
  · rename_i hb
    rw [if_pos (Nat.le_trans hB hb)]
    exact h a v hb e
  · cases e
theorem cell_other {w : World} {p a : Addr} {v : Value} (h : a.block ≠ p.block) : (w.setCell p v).cell? a = w.cell? a := by
  unfold World.cell?
  rw [Below.heap_setCell _ _ _ _ h]
/-- A script and a number are told. -/
def ScrEnd (r : Scr × Int) (w : World) (e : Ending) (w' : World) : Prop := ∃ v0 v1, e = .returned (.tuple #[.agg #[v0, v1], .int .i64 r.2]) ∧ ScIs (upF w.heap.size w'.cell?) r.1 v0 v1 ∧ Below w.heap.size w w'
theorem noScr_is (C : Addr → Option Value) : ScIs C noScr (.slice none 0 0) (.slice none 0 0) := ⟨⟨none, 0, rfl, .inl rfl⟩, ⟨none, 0, rfl, .inl rfl⟩⟩
theorem load_scr5 {w : World} {b : Nat} {x0 x1 : Value} (h0 : w.cell? ⟨b, 0, none⟩ = some x0) (h1 : w.cell? ⟨b, 1, none⟩ = some x1) : (loadVar 39 ⟨b, 0, none⟩).run Tryz.prog w = .ok (.agg #[x0, x1]) w := by
  simp [loadVar, go_sem, h0, h1]
theorem ret_scr5 {fn : Func} {w W : World} {a : Act} {t u : Tmp} {v0 v1 : Value} {bad : Int} {s : Scr} (hb : W.heap[w.heap.size]? = some (.cells #[v0, v1] 39 (0, 0))) (hbe : Below w.heap.size w W) (h : fn.results = #[.cell t 39, .tmp u]) (ha : a.tmps[t]?.getD undef = .pointer (some ⟨w.heap.size, 0, none⟩)) (hd : a.defers = []) (hu : a.tmps[u]?.getD undef = .int .i64 bad) (hs : ScIs (upF w.heap.size W.cell?) s v0 v1) (r : Scr × Int) (hr : r = (s, bad)) :
    bodyPost Tryz.prog fn (ScrEnd r w) .ret a W := by
  subst hr
  obtain ⟨q0, q1, _, _⟩ := cells2 hb
  exact bodyPost_ret (by rw [results_mixed h _ _ _ _ _ ha (load_scr5 q0 q1), hu]) hd ⟨v0, v1, rfl, hs, hbe⟩
set_option maxRecDepth 100000 in
set_option maxHeartbeats 1000000 in
theorem parse5_of (t : List UInt8) (ht : t.length ≤ 1048576) (r : Scr × Int) (hrf : r.1.fits) (w : World) (hRL : t.length ≤ 65536 → ∀ W, Below w.heap.size w W → Calls Tryz.prog 43 #[.string ⟨t.toArray⟩] W (ScrEnd r W)) : Calls Tryz.prog 19 #[.string ⟨t.toArray⟩] w (ScrEnd (parseR t r) w) := by
  obtain ⟨W1, hW1⟩ : ∃ W1, W1 = w.alloc (.cells #[.slice none 0 0, .slice none 0 0] 39) := ⟨_, rfl⟩
  have hb1 : Below w.heap.size w W1 := by rw [hW1]; exact (Below.refl _ w).alloc (Nat.le_refl _) _
  have bA : W1.heap[w.heap.size]? = some (.cells #[.slice none 0 0, .slice none 0 0] 39 (0, 0)) := by rw [hW1]; exact heap_alloc_new w _
  by_cases hl : 65536 < t.length
  · have hl' : (65536 : Int) < (t.length : Int) := by omega
    have H1 : Hid (parseR t r = (noScr, -1)) := hid (if_pos hl)
    have r1 := bA
    rw [hW1] at r1 hb1
    go_enter Tryz.func19, Tryz.ntmps19
    go_wp2_with fail
    exact ret_scr5 r1 hb1 rfl rfl rfl rfl (noScr_is _) _ H1.out
  · have hl' : ¬ (65536 : Int) < (t.length : Int) := by omega
    have HP : Hid (parseR t r = if r.2 = 0 ∧ r.1.right = false then (noScr, -2) else r) := hid (if_neg hl)
    replace hRL := hRL (by omega) W1 hb1
    obtain ⟨s, bad⟩ := r
    simp only at HP hrf
    have hR := fun V0 V1 W (h : ScIs W.cell? s V0 V1) => right4_any s V0 V1 W h hrf
    go_enter Tryz.func19, Tryz.ntmps19
    go_wp2_with fail
    rw [← hW1]
    clear hW1
    refine hRL.mono ?_
    rintro e w2 ⟨v0, v1, rfl, hS, hb2⟩
    simp only
    have r2 := (hb2.block _ (lt_of_block bA)).trans bA
    have hbw2 := hb1.trans (hb2.mono hb1.size)
    obtain ⟨p0, p1, z0, z1⟩ := cells2 r2
    have hlS := lt_of_block bA
    obtain ⟨⟨a0, c0, hv0, _⟩, ⟨a1, c1, hv1, _⟩⟩ := id hS
    have hk3 : ∀ W : World, (∀ (x : Addr) (v : Value), x.block ≠ w.heap.size → w2.cell? x = some v → W.cell? x = some v) → ScIs (upF w.heap.size W.cell?) s v0 v1 := fun W hW => hS.keep (upF_keep (Nat.le_of_lt hlS) fun x v hx hc => hW x v (by omega) hc)
    have heq : ∀ x : Addr, x.block ≠ w.heap.size → (((w2.setCell ⟨w.heap.size, 0, none⟩ v0).setCell ⟨w.heap.size, 1, none⟩ v1)).cell? x = w2.cell? x := fun x hx => by rw [cell_other hx, cell_other hx]
    have hS3 := hk3 _ fun x v hx hc => (heq x hx).trans hc
    have r3 : ((w2.setCell ⟨w.heap.size, 0, none⟩ v0).setCell ⟨w.heap.size, 1, none⟩ v1).heap[w.heap.size]? = some (.cells #[v0, v1] 39 (0, 0)) := by simp [World.setCell, Array.getElem?_modify, r2]
    have hb3 : Below w.heap.size w ((w2.setCell ⟨w.heap.size, 0, none⟩ v0).setCell ⟨w.heap.size, 1, none⟩ v1) := (hbw2.setCell (p := ⟨w.heap.size, 0, none⟩) (Nat.le_refl _) _).setCell (p := ⟨w.heap.size, 1, none⟩) (Nat.le_refl _) _
    have g1 : (w2.setCell ⟨w.heap.size, 0, none⟩ v0).heap[w.heap.size]? = some (.cells #[v0, .slice none 0 0] 39 (0, 0)) := by simp [World.setCell, Array.getElem?_modify, r2]
    obtain ⟨e0, e1, e2, e3⟩ := cells2 g1
    obtain ⟨d0, d1, d2, d3⟩ := cells2 r3
    have hR3 := hR v0 v1 _ (hS3.keep upF_all)
    subst hv0 hv1
    generalize s.consts.length = n0 at *
    generalize s.funcs.length = n1 at *
    by_cases hbad : bad = 0
    · subst hbad
      cases hr : s.right with
      | false =>
        have H1 : Hid (parseR t (s, 0) = (noScr, -2)) := hid (by rw [HP.out, hr]; rfl)
        rw [hr] at hR3
        go_wp2_with (first | (go_at_call 44; refine hR3.mono ?_; rintro e w4 ⟨rfl, hb4⟩; have r4 := (hb4.block _ (lt_of_block r3)).trans r3; obtain ⟨h0, h1, h2, h3⟩ := cells2 r4) | fail)
        have hb5 := hb3.trans (hb4.mono hb3.size)
        exact ret_scr5 (by simp [World.setCell, Array.getElem?_modify, r4]) ((hb5.setCell (p := ⟨w.heap.size, 0, none⟩) (Nat.le_refl _) _).setCell (p := ⟨w.heap.size, 1, none⟩) (Nat.le_refl _) _) rfl rfl rfl rfl (noScr_is _) _ H1.out
      | true =>
        have H1 : Hid (parseR t (s, 0) = (s, 0)) := hid (by rw [HP.out, hr]; rfl)
        rw [hr] at hR3
        go_wp2_with (first | (go_at_call 44; refine hR3.mono ?_; rintro e w4 ⟨rfl, hb4⟩; have r4 := (hb4.block _ (lt_of_block r3)).trans r3; obtain ⟨h0, h1, h2, h3⟩ := cells2 r4) | fail)
        have hb5 := hb3.trans (hb4.mono hb3.size)
        exact ret_scr5 (by simp [World.setCell, Array.getElem?_modify, r4]) ((hb5.setCell (p := ⟨w.heap.size, 0, none⟩) (Nat.le_refl _) _).setCell (p := ⟨w.heap.size, 1, none⟩) (Nat.le_refl _) _) rfl rfl rfl rfl (hk3 _ fun x v hx hc => by rw [cell_other hx, cell_other hx]; exact below_keep hb4 _ _ ((heq x hx).trans hc)) _ H1.out
    · have H1 : Hid (parseR t (s, bad) = (s, bad)) := hid (by rw [HP.out, if_neg (fun h => hbad h.1)])
      have hq : (bad == 0) = false := by simp [hbad]
      go_wp2_with fail
      exact ret_scr5 (by simp [World.setCell, Array.getElem?_modify, r2]) ((hb3.setCell (p := ⟨w.heap.size, 0, none⟩) (Nat.le_refl _) _).setCell (p := ⟨w.heap.size, 1, none⟩) (Nat.le_refl _) _) rfl rfl rfl rfl (hk3 _ fun x v hx hc => by rw [cell_other hx, cell_other hx]; exact (heq x hx).trans hc) _ H1.out
end Go.Proofs.YtbjipcpoiiegkaaGreatDoor
namespace Go.Proofs.YtbjipcpoiiegkaaGreatDoor
/-- How far a head is read: the marks that were passed, how many types, the three lists. -/
structure HS where
  m : Nat
  n : Nat
  p : List Int
  r : List Int
  l : List Int
def HS.push (h : HS) (k : Int) : HS :=
  if h.m = 1 then { h with n := h.n + 1, p := h.p ++ [k] } else if h.m = 2 then { h with n := h.n + 1, r := h.r ++ [k] } else { h with n := h.n + 1, l := h.l ++ [k] }
def markW : Nat → List UInt8
  | 0 => [102, 117, 110, 99]
  | 1 => [45, 62]
  | _ => [59]
/-- A word of the program's. -/
def hStep (h : HS) (x : List UInt8) : Option HS :=
  if h.m < 3 ∧ x = markW h.m then some { h with m := h.m + 1 } else if kindOf x = 0 ∨ h.m = 0 ∨ h.n = 64 then none else some (h.push (kindOf x))
/-- A word of the document's. -/
def dStep (h : HS) (x : List UInt8) : Option HS :=
  if h.m < 3 ∧ x = markW h.m then some { h with m := h.m + 1 } else if kindOf x = 0 then none else some (h.push (kindOf x))
def hRun : HS → List (List UInt8) → Option HS
  | h, [] => some h
  | h, x :: xs => (hStep h x).bind fun g => hRun g xs
def dRun : HS → List (List UInt8) → Option HS
  | h, [] => some h
  | h, x :: xs => (dStep h x).bind fun g => dRun g xs
def hBeg : HS := ⟨0, 0, [], [], []⟩
def hFun : HS := ⟨1, 0, [], [], []⟩
theorem push_m (h : HS) (k : Int) : (h.push k).m = h.m ∧ (h.push k).n = h.n + 1 := by
  unfold HS.push
  split
  · exact ⟨rfl, rfl⟩
  · split <;> exact ⟨rfl, rfl⟩
theorem dStep_sum {h g : HS} {x : List UInt8} (e : dStep h x = some g) : g.m + g.n = h.m + h.n + 1 ∧ h.m ≤ g.m ∧ h.n ≤ g.n := by
  unfold dStep at e
  split at e
  · cases e
    simp only
    omega
  · split at e
    · cases e
    · cases e
      have := push_m h (kindOf x)
      omega
theorem dRun_sum : ∀ {xs : List (List UInt8)} {h g : HS}, dRun h xs = some g → g.m + g.n = h.m + h.n + xs.length ∧ h.n ≤ g.n
  | [], h, g, e => by cases e; simp
  | x :: xs, h, g, e => by
    rw [dRun] at e
    cases hs : dStep h x with
    | none => rw [hs] at e; cases e
    | some k =>
      rw [hs] at e
      have a := dStep_sum hs
      have b := dRun_sum (xs := xs) (h := k) (g := g) e
      simp only [List.length_cons]
      omega
/-- The program stops where there would be a type too many: then the document's has too many in the end. -/
theorem run_same : ∀ {xs : List (List UInt8)} {h : HS}, 1 ≤ h.m → h.n ≤ 64 → hRun h xs = (dRun h xs).bind fun g => if g.n ≤ 64 then some g else none
  | [], h, _, hn => by simp [hRun, dRun, hn]
  | x :: xs, h, hm, hn => by
    rw [hRun, dRun]
    by_cases hk : h.m < 3 ∧ x = markW h.m
    · have e1 : hStep h x = some { h with m := h.m + 1 } := if_pos hk
      have e2 : dStep h x = some { h with m := h.m + 1 } := if_pos hk
      rw [e1, e2]
      exact run_same (xs := xs) (h := { h with m := h.m + 1 }) (by simp only; omega) hn
    · by_cases hz : kindOf x = 0
      · have e1 : hStep h x = none := by unfold hStep; rw [if_neg hk, if_pos (.inl hz)]
        have e2 : dStep h x = none := by unfold dStep; rw [if_neg hk, if_pos hz]
        rw [e1, e2]
        rfl
      · have e2 : dStep h x = some (h.push (kindOf x)) := by unfold dStep; rw [if_neg hk, if_neg hz]
        have pm := push_m h (kindOf x)
        by_cases h64 : h.n = 64
        · have e1 : hStep h x = none := by unfold hStep; rw [if_neg hk, if_pos (.inr (.inr h64))]
          rw [e1, e2]
          simp only [Option.bind_none, Option.bind_some]
          cases hd : dRun (h.push (kindOf x)) xs with
          | none => rfl
          | some g =>
            have := (dRun_sum hd).2
            simp only [Option.bind_some]
            rw [if_neg (by omega)]
        · have e1 : hStep h x = some (h.push (kindOf x)) := by unfold hStep; rw [if_neg hk, if_neg (by omega)]
          rw [e1, e2]
          exact run_same (xs := xs) (h := h.push (kindOf x)) (by omega) (by omega)
/-- What is read of a head's words. -/
def headOf (xs : List (List UInt8)) : Option Fn := (hRun hBeg xs).bind fun g => if g.m = 3 then some ⟨g.p, g.r, g.l, []⟩ else none
theorem kind_func : kindOf [102, 117, 110, 99] = 0 := by decide
theorem headOf_no {x : List UInt8} {xs : List (List UInt8)} (h : x ≠ [102, 117, 110, 99]) : headOf (x :: xs) = none := by
  unfold headOf
  rw [hRun]
  have : hStep hBeg x = none := by
    unfold hStep
    rw [if_neg (fun e => h e.2), if_pos (.inr (.inl rfl))]
  rw [this]
  rfl
/-- So the document's reads it: 'func', at most 67 words, and both marks. -/
theorem headOf_doc {xs : List (List UInt8)} : headOf ([102, 117, 110, 99] :: xs) = if xs.length + 1 ≤ 67 then (dRun hFun xs).bind fun g => if g.m = 3 then some ⟨g.p, g.r, g.l, []⟩ else none else none := by
  unfold headOf
  rw [hRun]
  have : hStep hBeg [102, 117, 110, 99] = some hFun := if_pos ⟨by decide, rfl⟩
  rw [this]
  simp only [Option.bind_some]
  rw [run_same (by decide) (by decide)]
  cases hd : dRun hFun xs with
  | none => simp
  | some g =>
    have := (dRun_sum hd).1
    have h11 : hFun.m = 1 := rfl
    have h10 : hFun.n = 0 := rfl
    simp only [Option.bind_some]
    by_cases h3 : g.m = 3
    · by_cases hn : g.n ≤ 64
      · rw [if_pos hn, if_pos (by omega)]
        rfl
      · rw [if_neg hn, if_neg (by omega)]
        rfl
    · rw [if_neg h3]
      split
      · simp [h3]
      · simp
end Go.Proofs.YtbjipcpoiiegkaaGreatDoor
namespace Go.Proofs.YtbjipcpoiiegkaaGreatDoor
open Go.RowKit
section
variable {P : Program} {ops : Array Oper} {Q : Exit → Act → World → Prop} {md : Region.Mode}
theorem wpAnyIn_inv {F : Fence} {n : Nat} (Inv : Array Bool → Act → World → Prop)
    (hstep : ∀ listed a w i, Inv listed a w → i ∈ Region.ready md ops listed → wpOpIn F n P ops Q i (fun a' w' => Inv (listed.setIfInBounds i true) a' w') a w)
    (hend : ∀ listed a w, Inv listed a w → Region.ready md ops listed = [] → Q .normal a w) :
    ∀ fuel listed a w, leftIn ops.size listed ≤ fuel → Inv listed a w → wpAnyIn F n P md ops Q fuel listed a w
  | 0, listed, a, w, hf, h => by
    have hr : Region.ready md ops listed = [] := by
      cases hr : Region.ready md ops listed with
      | nil => rfl
      | cons i r =>
        have hi : i ∈ Region.ready md ops listed := by rw [hr]; simp
        obtain ⟨h1, o, ho, _⟩ := mem_ready.1 hi
        have : i ∈ (List.range ops.size).filter fun i => !listed.getD i true := List.mem_filter.2 ⟨List.mem_range.2 (Array.getElem?_eq_some_iff.1 ho).1, by rw [h1]; rfl⟩
        have := List.length_pos_of_mem this
        unfold leftIn at hf
        omega
    exact ⟨hr, hend _ _ _ h hr⟩
  | fuel + 1, listed, a, w, hf, h => by
    refine ⟨hend _ _ _ h, fun i hi => ?_⟩
    obtain ⟨h1, o, ho, _⟩ := mem_ready.1 hi
    have := left_set (Array.getElem?_eq_some_iff.1 ho).1 h1
    exact wpOpIn_mono (fun a' w' h' => wpAnyIn_inv Inv hstep hend fuel _ a' w' (by omega) h') (hstep _ _ _ i h hi)
/-- An operation that neither calls nor defers. -/
theorem op_round {l n : Nat} {o : Oper} {a : Act} {w : World} {K : Act → World → Prop} (hd : ∀ c, o.op ≠ .defer c) (h : o.wp P a w K Q) : o.wpIn (Fence.wide.inRound l) n P a w K Q := by
  refine ⟨fun f _ => trivial, ?_⟩
  rw [Oper.semAt_eq _ _ _ hd]
  unfold Oper.wp at h
  generalize (execOp a.eval o).run P w = r at h
  cases r with
  | ok x w' =>
    cases x <;> simp only [Oper.upon, Oper.uponIn] at h ⊢ <;> first
      | exact h
      | exact h.elim
      | (refine ⟨fun e => (by cases e), CallsIn.inRound l (callsIn_wide.2 ?_)⟩; refine h.mono ?_; intro e w'' he; cases e <;> exact he)
      | (refine ⟨fun e => (by cases e), fun c cs _ => ?_⟩; obtain ⟨v, w', r, s⟩ := h c cs; exact ⟨v, w', r, stepsIn_wide.2 s⟩)
  | halt x w' => cases x <;> simp only [Oper.upon, Oper.uponIn] at h ⊢ <;> first | exact h | exact h.elim
def nodefB (ops : Array Oper) : Bool := ops.all fun o => match o.op with
  | .defer _ => false
  | _ => true
theorem nodef {i : Nat} {o : Oper} (h : nodefB ops = true) (ho : ops[i]? = some o) : ∀ c, o.op ≠ .defer c := fun c e => by
  have := Array.all_eq_true'.1 h o (Array.mem_of_getElem? ho)
  rw [e] at this
  cases this
/-- **The law, in a round.** -/
theorem wpIn_region_each {l m : Nat} {id : Nat} {a0 : Act} {w : World} (hm : P.follows .mixedOrders = true) (n : Nat) (hn : a0.tmps.size = n) (hB : apartB .any ops n = true) (hD : nodefB ops = true) (G : Array Bool → World → Prop) (Pr : Array Bool → Nat → Value → World → Prop)
    (h0 : G (Array.replicate ops.size false) w.drew)
    (hop : ∀ (i : Nat) (o : Oper), ops[i]? = some o → ∀ (listed : Array Bool) (a : Act) (W : World), Each ops a0 G Pr listed a W → listed.getD i true = false → (∀ e ∈ o.after, Region.binds .any e = true → listed.getD e.on false = true) →
      o.wp P a W (fun a' W' => ∃ v, a' = a.put o.dst v ∧ Pr (listed.setIfInBounds i true) i v W' ∧ G (listed.setIfInBounds i true) W' ∧ ∀ j u, listed.getD j false = true → Pr listed j u W → Pr (listed.setIfInBounds i true) j u W') Q)
    (hend : ∀ a W, Each ops a0 G Pr (Array.replicate ops.size true) a W → Q .normal a W) : (Code.region id ops true).wpIn (Fence.wide.inRound l) m P Q a0 w := by
  refine wpIn_region_any hm (wpAnyIn_inv (Each ops a0 G Pr) ?_ ?_ _ _ _ _ ?_ (each_start h0))
  · intro listed a W i hI hi
    obtain ⟨o, ho, hw, h⟩ := each_step n hn hB G Pr hop listed a W i hI hi
    unfold wpOpIn
    rw [ho]
    simp only [hw, if_true]
    exact op_round (nodef hD ho) h
  · intro listed a W hI hr
    exact hend a W (each_end n hB hI hr)
  · unfold leftIn
    exact Nat.le_trans (List.length_filter_le _ _) (by simp)
/-- How far the writers have come: how many of them are listed. -/
def stageOf (ws : List Nat) (listed : Array Bool) : Nat := (ws.filter fun i => listed.getD i false).length
/-- A region whose operations come to the same values whatever order is drawn, the world being told by how many of its writers have come up. -/
structure Det (P : Program) (ops : Array Oper) (a0 : Act) (vals : Nat → Value) (Wd : Nat → World) (stage : Array Bool → Nat) : Prop where
  run : ∀ (i : Nat) (o : Oper), ops[i]? = some o → ∀ (listed : Array Bool) (a : Act), listed.getD i true = false → (∀ e ∈ o.after, Region.binds .any e = true → listed.getD e.on false = true) →
    (∀ (i : Nat) (o : Oper), ops[i]? = some o → listed.getD i false = true → ∀ e ∈ o.after, Region.binds .any e = true → listed.getD e.on false = true) →
    (∀ t : Nat, (∀ (i : Nat) (o : Oper), ops[i]? = some o → o.dst ≠ some t) → a.tmps[t]?.getD undef = a0.tmps[t]?.getD undef) →
    (∀ (j : Nat) (o : Oper) (t : Nat), ops[j]? = some o → listed.getD j false = true → o.dst = some t → a.tmps[t]?.getD undef = vals j) →
    ((execOp a.eval o).run P (Wd (stage listed)) = .ok (.value (vals i)) (Wd (stage (listed.setIfInBounds i true)))) ∨ ((execOp a.eval o).run P (Wd (stage listed)) = .ok .skip (Wd (stage (listed.setIfInBounds i true))) ∧ vals i = undef)
theorem Det.hop {a0 : Act} {vals : Nat → Value} {Wd : Nat → World} {stage : Array Bool → Nat} (D : Det P ops a0 vals Wd stage) : ∀ (i : Nat) (o : Oper), ops[i]? = some o → ∀ (listed : Array Bool) (a : Act) (W : World), Each ops a0 (fun listed W => W = Wd (stage listed)) (fun _ i v _ => v = vals i) listed a W → listed.getD i true = false → (∀ e ∈ o.after, Region.binds .any e = true → listed.getD e.on false = true) →
      o.wp P a W (fun a' W' => ∃ v, a' = a.put o.dst v ∧ v = vals i ∧ W' = Wd (stage (listed.setIfInBounds i true)) ∧ ∀ (j : Nat) (u : Value), listed.getD j false = true → u = vals j → u = vals j) Q := by
  intro i o ho listed a W hE hn haf
  obtain rfl := hE.glob
  unfold Oper.wp
  rcases D.run i o ho listed a hn haf hE.closed hE.rest hE.vals with h | ⟨h, hv⟩
  · rw [h]
    exact ⟨_, rfl, rfl, rfl, fun _ _ _ h => h⟩
  · rw [h]
    exact ⟨_, rfl, hv.symm, rfl, fun _ _ _ h => h⟩
theorem wpIn_region_det {l m : Nat} {id : Nat} {a0 : Act} {w : World} (hm : P.follows .mixedOrders = true) (n : Nat) (hn : a0.tmps.size = n) (hB : apartB .any ops n = true) (hD : nodefB ops = true) {vals : Nat → Value} {Wd : Nat → World} {stage : Array Bool → Nat} (D : Det P ops a0 vals Wd stage)
    (h0 : Wd (stage (Array.replicate ops.size false)) = w.drew)
    (hend : ∀ a, a.tmps.size = n → a.defers = a0.defers → (∀ t : Nat, (∀ (i : Nat) (o : Oper), ops[i]? = some o → o.dst ≠ some t) → a.tmps[t]?.getD undef = a0.tmps[t]?.getD undef) → (∀ (j : Nat) (o : Oper) (t : Nat), ops[j]? = some o → o.dst = some t → a.tmps[t]?.getD undef = vals j) → Q .normal a (Wd (stage (Array.replicate ops.size true)))) : (Code.region id ops true).wpIn (Fence.wide.inRound l) m P Q a0 w := by
  refine wpIn_region_each hm n hn hB hD (fun listed W => W = Wd (stage listed)) (fun _ i v _ => v = vals i) h0.symm D.hop ?_
  intro a W hE
  obtain rfl := hE.glob
  exact hend a (hE.tsize.trans hn) hE.defers hE.rest fun j o t ho hd => hE.vals j o t ho (by
    rw [Array.getD_eq_getD_getElem?, Array.getElem?_replicate, if_pos (Array.getElem?_eq_some_iff.1 ho).1]
    rfl) hd
theorem wp_region_det {id : Nat} {a0 : Act} {w : World} (hm : P.follows .mixedOrders = true) (n : Nat) (hn : a0.tmps.size = n) (hB : apartB .any ops n = true) {vals : Nat → Value} {Wd : Nat → World} {stage : Array Bool → Nat} (D : Det P ops a0 vals Wd stage)
    (h0 : Wd (stage (Array.replicate ops.size false)) = w.drew)
    (hend : ∀ a, a.tmps.size = n → a.defers = a0.defers → (∀ t : Nat, (∀ (i : Nat) (o : Oper), ops[i]? = some o → o.dst ≠ some t) → a.tmps[t]?.getD undef = a0.tmps[t]?.getD undef) → (∀ (j : Nat) (o : Oper) (t : Nat), ops[j]? = some o → o.dst = some t → a.tmps[t]?.getD undef = vals j) → Q .normal a (Wd (stage (Array.replicate ops.size true)))) : (Code.region id ops true).wp P Q a0 w := by
  refine wp_region_each hm n hn hB (fun listed W => W = Wd (stage listed)) (fun _ i v _ => v = vals i) h0.symm D.hop ?_
  intro a W hE
  obtain rfl := hE.glob
  exact hend a (hE.tsize.trans hn) hE.defers hE.rest fun j o t ho hd => hE.vals j o t ho (by
    rw [Array.getD_eq_getD_getElem?, Array.getElem?_replicate, if_pos (Array.getElem?_eq_some_iff.1 ho).1]
    rfl) hd
end
theorem exec_append {P : Program} {o : Oper} {ρ : Operand → Value} {w w' : World} {s x : Operand} {t : TypeId} {v y v' : Value} (ho : o.op = .call { callee := .builtin .append, args := #[s, x], argTypes := #[t, t] }) (hv : ρ s = v) (hy : ρ x = y) (hr : (Builtin.append_ #[t, t] o.type #[v, y]).run P w = .ok v' w') : (execOp ρ o).run P w = .ok (.value v') w' := by
  unfold execOp
  simp only [ho, resolve, invoke, builtin, Sem.run_bind, Sem.run_pure, Result.andThen_ok, List.map_toArray, List.map_cons, List.map_nil, hv, hy, hr]
end Go.Proofs.YtbjipcpoiiegkaaGreatDoor
