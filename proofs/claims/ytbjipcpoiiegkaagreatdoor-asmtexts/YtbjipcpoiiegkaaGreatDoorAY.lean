/- asm.Parse, readLines given. Plain: what the two ReadHeads read, word by word, and that it is the same. A region that draws its order, within a round of a loop over a function: by what each of its operations leaves, whatever order is drawn. A loop over an iterator that keeps its place in one cell of its own: what the iterator owes, what the loop's body owes, and what then holds. What strings.SplitSeq hands on at a blank. -/
import Derived.Test.YtbjipcpoiiegkaaGreatDoorAP
import Derived.Test.YtbjipcpoiiegkaaGreatDoorAJ
import Derived.Test.YtbjipcpoiiegkaaGreatDoorAN
import Derived.Test.YtbjipcpoiiegkaaGreatDoorRI
import Derived.RangeFuncNested
import Derived.RangeFuncBound
import Derived.RangeFuncCalls
import Derived.RangeFuncLeaves
import Derived.WalkKit
import Derived.OrdersIn
import Derived.RangeFuncWrites
import Derived.Shelf.Abstract
import Derived.Shelf.RegionOpen
import Derived.OwnWalkIn
import Derived.TacticsInMore
import Derived.LoopNIn
import Derived.LoopIn
import Derived.Lib.IndexLaws
import Derived.Test.YtbjipcpoiiegkaaGreatDoorChecked
import Derived.Test.YtbjipcpoiiegkaaGreatDoorShelf
namespace Go.Proofs.YtbjipcpoiiegkaaGreatDoor
open Go.RowKit
def noScr : Scr := ⟨[], []⟩
/-- What Parse tells, of what readLines tells. -/
def parseR (t : List UInt8) (r : Scr × Int) : Scr × Int := if 65536 < t.length then (noScr, -1) else if r.2 = 0 ∧ r.1.right = false then (noScr, -2) else r
/-- What lies from block B on. -/
def upF (B : Nat) (C : Addr → Option Value) : Addr → Option Value := fun a => if B ≤ a.block then C a else none
theorem upF_all {B : Nat} {C : Addr → Option Value} : ∀ a v, upF B C a = some v → C a = some v := fun a v h => by
  unfold upF at h
  split at h
  · exact h
  · cases h
theorem upF_keep {B B' : Nat} {C C' : Addr → Option Value} (hB : B' ≤ B) (h : ∀ a v, B ≤ a.block → C a = some v → C' a = some v) : ∀ a v, upF B C a = some v → upF B' C' a = some v := fun a v e => by
  unfold upF at e ⊢
  split at e
  · rename_i hb
    rw [if_pos (Nat.le_trans hB hb)]
    exact h a v hb e
  · cases e
theorem cell_other {w : World} {p a : Addr} {v : Value} (h : a.block ≠ p.block) : (w.setCell p v).cell? a = w.cell? a := by
  unfold World.cell?
  rw [Below.heap_setCell _ _ _ _ h]
/-- A script and a number are told. -/
def ScrEnd (r : Scr × Int) (w : World) (e : Ending) (w' : World) : Prop := ∃ v0 v1, e = .returned (.tuple #[.agg #[v0, v1], .int .i64 r.2]) ∧ ScIs (upF w.heap.size w'.cell?) r.1 v0 v1 ∧ Below w.heap.size w w'
theorem noScr_is (C : Addr → Option Value) : ScIs C noScr (.slice none 0 0) (.slice none 0 0) := ⟨⟨none, 0, rfl, .inl rfl⟩, ⟨none, 0, rfl, .inl rfl⟩⟩
theorem load_scr5 {w : World} {b : Nat} {x0 x1 : Value} (h0 : w.cell? ⟨b, 0, none⟩ = some x0) (h1 : w.cell? ⟨b, 1, none⟩ = some x1) : (loadVar 39 ⟨b, 0, none⟩).run Tryz.prog w = .ok (.agg #[x0, x1]) w := by
  simp [loadVar, go_sem, h0, h1]
theorem ret_scr5 {fn : Func} {w W : World} {a : Act} {t u : Tmp} {v0 v1 : Value} {bad : Int} {s : Scr} (hb : W.heap[w.heap.size]? = some (.cells #[v0, v1] 39 (0, 0))) (hbe : Below w.heap.size w W) (h : fn.results = #[.cell t 39, .tmp u]) (ha : a.tmps[t]?.getD undef = .pointer (some ⟨w.heap.size, 0, none⟩)) (hd : a.defers = []) (hu : a.tmps[u]?.getD undef = .int .i64 bad) (hs : ScIs (upF w.heap.size W.cell?) s v0 v1) (r : Scr × Int) (hr : r = (s, bad)) :
    bodyPost Tryz.prog fn (ScrEnd r w) .ret a W := by
  subst hr
  obtain ⟨q0, q1, _, _⟩ := cells2 hb
  exact bodyPost_ret (by rw [results_mixed h _ _ _ _ _ ha (load_scr5 q0 q1), hu]) hd ⟨v0, v1, rfl, hs, hbe⟩
set_option maxRecDepth 100000 in
set_option maxHeartbeats 1000000 in
theorem parse5_of (t : List UInt8) (ht : t.length ≤ 1048576) (r : Scr × Int) (hrf : r.1.fits) (w : World) (hRL : t.length ≤ 65536 → ∀ W, Below w.heap.size w W → Calls Tryz.prog 43 #[.string ⟨t.toArray⟩] W (ScrEnd r W)) : Calls Tryz.prog 19 #[.string ⟨t.toArray⟩] w (ScrEnd (parseR t r) w) := by
  obtain ⟨W1, hW1⟩ : ∃ W1, W1 = w.alloc (.cells #[.slice none 0 0, .slice none 0 0] 39) := ⟨_, rfl⟩
  have hb1 : Below w.heap.size w W1 := by rw [hW1]; exact (Below.refl _ w).alloc (Nat.le_refl _) _
  have bA : W1.heap[w.heap.size]? = some (.cells #[.slice none 0 0, .slice none 0 0] 39 (0, 0)) := by rw [hW1]; exact heap_alloc_new w _
  by_cases hl : 65536 < t.length
  · have hl' : (65536 : Int) < (t.length : Int) := by omega
    have H1 : Hid (parseR t r = (noScr, -1)) := hid (if_pos hl)
    have r1 := bA
    rw [hW1] at r1 hb1
    go_enter Tryz.func19, Tryz.ntmps19
    go_wp2_with fail
    exact ret_scr5 r1 hb1 rfl rfl rfl rfl (noScr_is _) _ H1.out
  · have hl' : ¬ (65536 : Int) < (t.length : Int) := by omega
    have HP : Hid (parseR t r = if r.2 = 0 ∧ r.1.right = false then (noScr, -2) else r) := hid (if_neg hl)
    replace hRL := hRL (by omega) W1 hb1
    obtain ⟨s, bad⟩ := r
    simp only at HP hrf
    have hR := fun V0 V1 W (h : ScIs W.cell? s V0 V1) => right4_any s V0 V1 W h hrf
    go_enter Tryz.func19, Tryz.ntmps19
    go_wp2_with fail
    rw [← hW1]
    clear hW1
    refine hRL.mono ?_
    rintro e w2 ⟨v0, v1, rfl, hS, hb2⟩
    simp only
    have r2 := (hb2.block _ (lt_of_block bA)).trans bA
    have hbw2 := hb1.trans (hb2.mono hb1.size)
    obtain ⟨p0, p1, z0, z1⟩ := cells2 r2
    have hlS := lt_of_block bA
    obtain ⟨⟨a0, c0, hv0, _⟩, ⟨a1, c1, hv1, _⟩⟩ := id hS
    have hk3 : ∀ W : World, (∀ (x : Addr) (v : Value), x.block ≠ w.heap.size → w2.cell? x = some v → W.cell? x = some v) → ScIs (upF w.heap.size W.cell?) s v0 v1 := fun W hW => hS.keep (upF_keep (Nat.le_of_lt hlS) fun x v hx hc => hW x v (by omega) hc)
    have heq : ∀ x : Addr, x.block ≠ w.heap.size → (((w2.setCell ⟨w.heap.size, 0, none⟩ v0).setCell ⟨w.heap.size, 1, none⟩ v1)).cell? x = w2.cell? x := fun x hx => by rw [cell_other hx, cell_other hx]
    have hS3 := hk3 _ fun x v hx hc => (heq x hx).trans hc
    have r3 : ((w2.setCell ⟨w.heap.size, 0, none⟩ v0).setCell ⟨w.heap.size, 1, none⟩ v1).heap[w.heap.size]? = some (.cells #[v0, v1] 39 (0, 0)) := by simp [World.setCell, Array.getElem?_modify, r2]
    have hb3 : Below w.heap.size w ((w2.setCell ⟨w.heap.size, 0, none⟩ v0).setCell ⟨w.heap.size, 1, none⟩ v1) := (hbw2.setCell (p := ⟨w.heap.size, 0, none⟩) (Nat.le_refl _) _).setCell (p := ⟨w.heap.size, 1, none⟩) (Nat.le_refl _) _
    have g1 : (w2.setCell ⟨w.heap.size, 0, none⟩ v0).heap[w.heap.size]? = some (.cells #[v0, .slice none 0 0] 39 (0, 0)) := by simp [World.setCell, Array.getElem?_modify, r2]
    obtain ⟨e0, e1, e2, e3⟩ := cells2 g1
    obtain ⟨d0, d1, d2, d3⟩ := cells2 r3
    have hR3 := hR v0 v1 _ (hS3.keep upF_all)
    subst hv0 hv1
    generalize s.consts.length = n0 at *
    generalize s.funcs.length = n1 at *
    by_cases hbad : bad = 0
    · subst hbad
      cases hr : s.right with
      | false =>
        have H1 : Hid (parseR t (s, 0) = (noScr, -2)) := hid (by rw [HP.out, hr]; rfl)
        rw [hr] at hR3
        go_wp2_with (first | (go_at_call 44; refine hR3.mono ?_; rintro e w4 ⟨rfl, hb4⟩; have r4 := (hb4.block _ (lt_of_block r3)).trans r3; obtain ⟨h0, h1, h2, h3⟩ := cells2 r4) | fail)
        have hb5 := hb3.trans (hb4.mono hb3.size)
        exact ret_scr5 (by simp [World.setCell, Array.getElem?_modify, r4]) ((hb5.setCell (p := ⟨w.heap.size, 0, none⟩) (Nat.le_refl _) _).setCell (p := ⟨w.heap.size, 1, none⟩) (Nat.le_refl _) _) rfl rfl rfl rfl (noScr_is _) _ H1.out
      | true =>
        have H1 : Hid (parseR t (s, 0) = (s, 0)) := hid (by rw [HP.out, hr]; rfl)
        rw [hr] at hR3
        go_wp2_with (first | (go_at_call 44; refine hR3.mono ?_; rintro e w4 ⟨rfl, hb4⟩; have r4 := (hb4.block _ (lt_of_block r3)).trans r3; obtain ⟨h0, h1, h2, h3⟩ := cells2 r4) | fail)
        have hb5 := hb3.trans (hb4.mono hb3.size)
        exact ret_scr5 (by simp [World.setCell, Array.getElem?_modify, r4]) ((hb5.setCell (p := ⟨w.heap.size, 0, none⟩) (Nat.le_refl _) _).setCell (p := ⟨w.heap.size, 1, none⟩) (Nat.le_refl _) _) rfl rfl rfl rfl (hk3 _ fun x v hx hc => by rw [cell_other hx, cell_other hx]; exact below_keep hb4 _ _ ((heq x hx).trans hc)) _ H1.out
    · have H1 : Hid (parseR t (s, bad) = (s, bad)) := hid (by rw [HP.out, if_neg (fun h => hbad h.1)])
      have hq : (bad == 0) = false := by simp [hbad]
      go_wp2_with fail
      exact ret_scr5 (by simp [World.setCell, Array.getElem?_modify, r2]) ((hb3.setCell (p := ⟨w.heap.size, 0, none⟩) (Nat.le_refl _) _).setCell (p := ⟨w.heap.size, 1, none⟩) (Nat.le_refl _) _) rfl rfl rfl rfl (hk3 _ fun x v hx hc => by rw [cell_other hx, cell_other hx]; exact (heq x hx).trans hc) _ H1.out
end Go.Proofs.YtbjipcpoiiegkaaGreatDoor
namespace Go.Proofs.YtbjipcpoiiegkaaGreatDoor
/-- How far a head is read: the marks that were passed, how many types, the three lists. -/
structure HS where
  m : Nat
  n : Nat
  p : List Int
  r : List Int
  l : List Int
def HS.push (h : HS) (k : Int) : HS :=
  if h.m = 1 then { h with n := h.n + 1, p := h.p ++ [k] } else if h.m = 2 then { h with n := h.n + 1, r := h.r ++ [k] } else { h with n := h.n + 1, l := h.l ++ [k] }
def markW : Nat → List UInt8
  | 0 => [102, 117, 110, 99]
  | 1 => [45, 62]
  | _ => [59]
/-- A word of the program's. -/
def hStep (h : HS) (x : List UInt8) : Option HS :=
  if h.m < 3 ∧ x = markW h.m then some { h with m := h.m + 1 } else if kindOf x = 0 ∨ h.m = 0 ∨ h.n = 64 then none else some (h.push (kindOf x))
/-- A word of the document's. -/
def dStep (h : HS) (x : List UInt8) : Option HS :=
  if h.m < 3 ∧ x = markW h.m then some { h with m := h.m + 1 } else if kindOf x = 0 then none else some (h.push (kindOf x))
def hRun : HS → List (List UInt8) → Option HS
  | h, [] => some h
  | h, x :: xs => (hStep h x).bind fun g => hRun g xs
def dRun : HS → List (List UInt8) → Option HS
  | h, [] => some h
  | h, x :: xs => (dStep h x).bind fun g => dRun g xs
def hBeg : HS := ⟨0, 0, [], [], []⟩
def hFun : HS := ⟨1, 0, [], [], []⟩
theorem push_m (h : HS) (k : Int) : (h.push k).m = h.m ∧ (h.push k).n = h.n + 1 := by
  unfold HS.push
  split
  · exact ⟨rfl, rfl⟩
  · split <;> exact ⟨rfl, rfl⟩
theorem dStep_sum {h g : HS} {x : List UInt8} (e : dStep h x = some g) : g.m + g.n = h.m + h.n + 1 ∧ h.m ≤ g.m ∧ h.n ≤ g.n := by
  unfold dStep at e
  split at e
  · cases e
    simp only
    omega
  · split at e
    · cases e
    · cases e
      have := push_m h (kindOf x)
      omega
theorem dRun_sum : ∀ {xs : List (List UInt8)} {h g : HS}, dRun h xs = some g → g.m + g.n = h.m + h.n + xs.length ∧ h.n ≤ g.n
  | [], h, g, e => by cases e; simp
  | x :: xs, h, g, e => by
    rw [dRun] at e
    cases hs : dStep h x with
    | none => rw [hs] at e; cases e
    | some k =>
      rw [hs] at e
      have a := dStep_sum hs
      have b := dRun_sum (xs := xs) (h := k) (g := g) e
      simp only [List.length_cons]
      omega
/-- The program stops where there would be a type too many: then the document's has too many in the end. -/
theorem run_same : ∀ {xs : List (List UInt8)} {h : HS}, 1 ≤ h.m → h.n ≤ 64 → hRun h xs = (dRun h xs).bind fun g => if g.n ≤ 64 then some g else none
  | [], h, _, hn => by simp [hRun, dRun, hn]
  | x :: xs, h, hm, hn => by
    rw [hRun, dRun]
    by_cases hk : h.m < 3 ∧ x = markW h.m
    · have e1 : hStep h x = some { h with m := h.m + 1 } := if_pos hk
      have e2 : dStep h x = some { h with m := h.m + 1 } := if_pos hk
      rw [e1, e2]
      exact run_same (xs := xs) (h := { h with m := h.m + 1 }) (by simp only; omega) hn
    · by_cases hz : kindOf x = 0
      · have e1 : hStep h x = none := by unfold hStep; rw [if_neg hk, if_pos (.inl hz)]
        have e2 : dStep h x = none := by unfold dStep; rw [if_neg hk, if_pos hz]
        rw [e1, e2]
        rfl
      · have e2 : dStep h x = some (h.push (kindOf x)) := by unfold dStep; rw [if_neg hk, if_neg hz]
        have pm := push_m h (kindOf x)
        by_cases h64 : h.n = 64
        · have e1 : hStep h x = none := by unfold hStep; rw [if_neg hk, if_pos (.inr (.inr h64))]
          rw [e1, e2]
          simp only [Option.bind_none, Option.bind_some]
          cases hd : dRun (h.push (kindOf x)) xs with
          | none => rfl
          | some g =>
            have := (dRun_sum hd).2
            simp only [Option.bind_some]
            rw [if_neg (by omega)]
        · have e1 : hStep h x = some (h.push (kindOf x)) := by unfold hStep; rw [if_neg hk, if_neg (by omega)]
          rw [e1, e2]
          exact run_same (xs := xs) (h := h.push (kindOf x)) (by omega) (by omega)
/-- What is read of a head's words. -/
def headOf (xs : List (List UInt8)) : Option Fn := (hRun hBeg xs).bind fun g => if g.m = 3 then some ⟨g.p, g.r, g.l, []⟩ else none
theorem kind_func : kindOf [102, 117, 110, 99] = 0 := by decide
theorem headOf_no {x : List UInt8} {xs : List (List UInt8)} (h : x ≠ [102, 117, 110, 99]) : headOf (x :: xs) = none := by
  unfold headOf
  rw [hRun]
  have : hStep hBeg x = none := by
    unfold hStep
    rw [if_neg (fun e => h e.2), if_pos (.inr (.inl rfl))]
  rw [this]
  rfl
/-- So the document's reads it: 'func', at most 67 words, and both marks. -/
theorem headOf_doc {xs : List (List UInt8)} : headOf ([102, 117, 110, 99] :: xs) = if xs.length + 1 ≤ 67 then (dRun hFun xs).bind fun g => if g.m = 3 then some ⟨g.p, g.r, g.l, []⟩ else none else none := by
  unfold headOf
  rw [hRun]
  have : hStep hBeg [102, 117, 110, 99] = some hFun := if_pos ⟨by decide, rfl⟩
  rw [this]
  simp only [Option.bind_some]
  rw [run_same (by decide) (by decide)]
  cases hd : dRun hFun xs with
  | none => simp
  | some g =>
    have := (dRun_sum hd).1
    have h11 : hFun.m = 1 := rfl
    have h10 : hFun.n = 0 := rfl
    simp only [Option.bind_some]
    by_cases h3 : g.m = 3
    · by_cases hn : g.n ≤ 64
      · rw [if_pos hn, if_pos (by omega)]
        rfl
      · rw [if_neg hn, if_neg (by omega)]
        rfl
    · rw [if_neg h3]
      split
      · simp [h3]
      · simp
end Go.Proofs.YtbjipcpoiiegkaaGreatDoor
namespace Go.Proofs.YtbjipcpoiiegkaaGreatDoor
open Go.RowKit
section
variable {P : Program} {ops : Array Oper} {Q : Exit → Act → World → Prop} {md : Region.Mode}
theorem wpAnyIn_inv {F : Fence} {n : Nat} (Inv : Array Bool → Act → World → Prop)
    (hstep : ∀ listed a w i, Inv listed a w → i ∈ Region.ready md ops listed → wpOpIn F n P ops Q i (fun a' w' => Inv (listed.setIfInBounds i true) a' w') a w)
    (hend : ∀ listed a w, Inv listed a w → Region.ready md ops listed = [] → Q .normal a w) :
    ∀ fuel listed a w, leftIn ops.size listed ≤ fuel → Inv listed a w → wpAnyIn F n P md ops Q fuel listed a w
  | 0, listed, a, w, hf, h => by
    have hr : Region.ready md ops listed = [] := by
      cases hr : Region.ready md ops listed with
      | nil => rfl
      | cons i r =>
        have hi : i ∈ Region.ready md ops listed := by rw [hr]; simp
        obtain ⟨h1, o, ho, _⟩ := mem_ready.1 hi
        have : i ∈ (List.range ops.size).filter fun i => !listed.getD i true := List.mem_filter.2 ⟨List.mem_range.2 (Array.getElem?_eq_some_iff.1 ho).1, by rw [h1]; rfl⟩
        have := List.length_pos_of_mem this
        unfold leftIn at hf
        omega
    exact ⟨hr, hend _ _ _ h hr⟩
  | fuel + 1, listed, a, w, hf, h => by
    refine ⟨hend _ _ _ h, fun i hi => ?_⟩
    obtain ⟨h1, o, ho, _⟩ := mem_ready.1 hi
    have := left_set (Array.getElem?_eq_some_iff.1 ho).1 h1
    exact wpOpIn_mono (fun a' w' h' => wpAnyIn_inv Inv hstep hend fuel _ a' w' (by omega) h') (hstep _ _ _ i h hi)
/-- An operation that neither calls nor defers. -/
theorem op_round {l n : Nat} {o : Oper} {a : Act} {w : World} {K : Act → World → Prop} (hd : ∀ c, o.op ≠ .defer c) (h : o.wp P a w K Q) : o.wpIn (Fence.wide.inRound l) n P a w K Q := by
  refine ⟨fun f _ => trivial, ?_⟩
  rw [Oper.semAt_eq _ _ _ hd]
  unfold Oper.wp at h
  generalize (execOp a.eval o).run P w = r at h
  cases r with
  | ok x w' =>
    cases x <;> simp only [Oper.upon, Oper.uponIn] at h ⊢ <;> first
      | exact h
      | exact h.elim
      | (refine ⟨fun e => (by cases e), CallsIn.inRound l (callsIn_wide.2 ?_)⟩; refine h.mono ?_; intro e w'' he; cases e <;> exact he)
      | (refine ⟨fun e => (by cases e), fun c cs _ => ?_⟩; obtain ⟨v, w', r, s⟩ := h c cs; exact ⟨v, w', r, stepsIn_wide.2 s⟩)
  | halt x w' => cases x <;> simp only [Oper.upon, Oper.uponIn] at h ⊢ <;> first | exact h | exact h.elim
def nodefB (ops : Array Oper) : Bool := ops.all fun o => match o.op with
  | .defer _ => false
  | _ => true
theorem nodef {i : Nat} {o : Oper} (h : nodefB ops = true) (ho : ops[i]? = some o) : ∀ c, o.op ≠ .defer c := fun c e => by
  have := Array.all_eq_true'.1 h o (Array.mem_of_getElem? ho)
  rw [e] at this
  cases this
/-- **The law, in a round.** -/
theorem wpIn_region_each {l m : Nat} {id : Nat} {a0 : Act} {w : World} (hm : P.follows .mixedOrders = true) (n : Nat) (hn : a0.tmps.size = n) (hB : apartB .any ops n = true) (hD : nodefB ops = true) (G : Array Bool → World → Prop) (Pr : Array Bool → Nat → Value → World → Prop)
    (h0 : G (Array.replicate ops.size false) w.drew)
    (hop : ∀ (i : Nat) (o : Oper), ops[i]? = some o → ∀ (listed : Array Bool) (a : Act) (W : World), Each ops a0 G Pr listed a W → listed.getD i true = false → (∀ e ∈ o.after, Region.binds .any e = true → listed.getD e.on false = true) →
      o.wp P a W (fun a' W' => ∃ v, a' = a.put o.dst v ∧ Pr (listed.setIfInBounds i true) i v W' ∧ G (listed.setIfInBounds i true) W' ∧ ∀ j u, listed.getD j false = true → Pr listed j u W → Pr (listed.setIfInBounds i true) j u W') Q)
    (hend : ∀ a W, Each ops a0 G Pr (Array.replicate ops.size true) a W → Q .normal a W) : (Code.region id ops true).wpIn (Fence.wide.inRound l) m P Q a0 w := by
  refine wpIn_region_any hm (wpAnyIn_inv (Each ops a0 G Pr) ?_ ?_ _ _ _ _ ?_ (each_start h0))
  · intro listed a W i hI hi
    obtain ⟨o, ho, hw, h⟩ := each_step n hn hB G Pr hop listed a W i hI hi
    unfold wpOpIn
    rw [ho]
    simp only [hw, if_true]
    exact op_round (nodef hD ho) h
  · intro listed a W hI hr
    exact hend a W (each_end n hB hI hr)
  · unfold leftIn
    exact Nat.le_trans (List.length_filter_le _ _) (by simp)
/-- How far the writers have come: how many of them are listed. -/
def stageOf (ws : List Nat) (listed : Array Bool) : Nat := (ws.filter fun i => listed.getD i false).length
/-- A region whose operations come to the same values whatever order is drawn, the world being told by how many of its writers have come up. -/
structure Det (P : Program) (ops : Array Oper) (a0 : Act) (vals : Nat → Value) (Wd : Nat → World) (stage : Array Bool → Nat) : Prop where
  run : ∀ (i : Nat) (o : Oper), ops[i]? = some o → ∀ (listed : Array Bool) (a : Act), listed.getD i true = false → (∀ e ∈ o.after, Region.binds .any e = true → listed.getD e.on false = true) →
    (∀ (i : Nat) (o : Oper), ops[i]? = some o → listed.getD i false = true → ∀ e ∈ o.after, Region.binds .any e = true → listed.getD e.on false = true) →
    (∀ t : Nat, (∀ (i : Nat) (o : Oper), ops[i]? = some o → o.dst ≠ some t) → a.tmps[t]?.getD undef = a0.tmps[t]?.getD undef) →
    (∀ (j : Nat) (o : Oper) (t : Nat), ops[j]? = some o → listed.getD j false = true → o.dst = some t → a.tmps[t]?.getD undef = vals j) →
    ((execOp a.eval o).run P (Wd (stage listed)) = .ok (.value (vals i)) (Wd (stage (listed.setIfInBounds i true)))) ∨ ((execOp a.eval o).run P (Wd (stage listed)) = .ok .skip (Wd (stage (listed.setIfInBounds i true))) ∧ vals i = undef)
theorem Det.hop {a0 : Act} {vals : Nat → Value} {Wd : Nat → World} {stage : Array Bool → Nat} (D : Det P ops a0 vals Wd stage) : ∀ (i : Nat) (o : Oper), ops[i]? = some o → ∀ (listed : Array Bool) (a : Act) (W : World), Each ops a0 (fun listed W => W = Wd (stage listed)) (fun _ i v _ => v = vals i) listed a W → listed.getD i true = false → (∀ e ∈ o.after, Region.binds .any e = true → listed.getD e.on false = true) →
      o.wp P a W (fun a' W' => ∃ v, a' = a.put o.dst v ∧ v = vals i ∧ W' = Wd (stage (listed.setIfInBounds i true)) ∧ ∀ (j : Nat) (u : Value), listed.getD j false = true → u = vals j → u = vals j) Q := by
  intro i o ho listed a W hE hn haf
  obtain rfl := hE.glob
  unfold Oper.wp
  rcases D.run i o ho listed a hn haf hE.closed hE.rest hE.vals with h | ⟨h, hv⟩
  · rw [h]
    exact ⟨_, rfl, rfl, rfl, fun _ _ _ h => h⟩
  · rw [h]
    exact ⟨_, rfl, hv.symm, rfl, fun _ _ _ h => h⟩
theorem wpIn_region_det {l m : Nat} {id : Nat} {a0 : Act} {w : World} (hm : P.follows .mixedOrders = true) (n : Nat) (hn : a0.tmps.size = n) (hB : apartB .any ops n = true) (hD : nodefB ops = true) {vals : Nat → Value} {Wd : Nat → World} {stage : Array Bool → Nat} (D : Det P ops a0 vals Wd stage)
    (h0 : Wd (stage (Array.replicate ops.size false)) = w.drew)
    (hend : ∀ a, a.tmps.size = n → a.defers = a0.defers → (∀ t : Nat, (∀ (i : Nat) (o : Oper), ops[i]? = some o → o.dst ≠ some t) → a.tmps[t]?.getD undef = a0.tmps[t]?.getD undef) → (∀ (j : Nat) (o : Oper) (t : Nat), ops[j]? = some o → o.dst = some t → a.tmps[t]?.getD undef = vals j) → Q .normal a (Wd (stage (Array.replicate ops.size true)))) : (Code.region id ops true).wpIn (Fence.wide.inRound l) m P Q a0 w := by
  refine wpIn_region_each hm n hn hB hD (fun listed W => W = Wd (stage listed)) (fun _ i v _ => v = vals i) h0.symm D.hop ?_
  intro a W hE
  obtain rfl := hE.glob
  exact hend a (hE.tsize.trans hn) hE.defers hE.rest fun j o t ho hd => hE.vals j o t ho (by
    rw [Array.getD_eq_getD_getElem?, Array.getElem?_replicate, if_pos (Array.getElem?_eq_some_iff.1 ho).1]
    rfl) hd
theorem wp_region_det {id : Nat} {a0 : Act} {w : World} (hm : P.follows .mixedOrders = true) (n : Nat) (hn : a0.tmps.size = n) (hB : apartB .any ops n = true) {vals : Nat → Value} {Wd : Nat → World} {stage : Array Bool → Nat} (D : Det P ops a0 vals Wd stage)
    (h0 : Wd (stage (Array.replicate ops.size false)) = w.drew)
    (hend : ∀ a, a.tmps.size = n → a.defers = a0.defers → (∀ t : Nat, (∀ (i : Nat) (o : Oper), ops[i]? = some o → o.dst ≠ some t) → a.tmps[t]?.getD undef = a0.tmps[t]?.getD undef) → (∀ (j : Nat) (o : Oper) (t : Nat), ops[j]? = some o → o.dst = some t → a.tmps[t]?.getD undef = vals j) → Q .normal a (Wd (stage (Array.replicate ops.size true)))) : (Code.region id ops true).wp P Q a0 w := by
  refine wp_region_each hm n hn hB (fun listed W => W = Wd (stage listed)) (fun _ i v _ => v = vals i) h0.symm D.hop ?_
  intro a W hE
  obtain rfl := hE.glob
  exact hend a (hE.tsize.trans hn) hE.defers hE.rest fun j o t ho hd => hE.vals j o t ho (by
    rw [Array.getD_eq_getD_getElem?, Array.getElem?_replicate, if_pos (Array.getElem?_eq_some_iff.1 ho).1]
    rfl) hd
end
theorem exec_append {P : Program} {o : Oper} {ρ : Operand → Value} {w w' : World} {s x : Operand} {t : TypeId} {v y v' : Value} (ho : o.op = .call { callee := .builtin .append, args := #[s, x], argTypes := #[t, t] }) (hv : ρ s = v) (hy : ρ x = y) (hr : (Builtin.append_ #[t, t] o.type #[v, y]).run P w = .ok v' w') : (execOp ρ o).run P w = .ok (.value v') w' := by
  unfold execOp
  simp only [ho, resolve, invoke, builtin, Sem.run_bind, Sem.run_pure, Result.andThen_ok, List.map_toArray, List.map_cons, List.map_nil, hv, hy, hr]
end Go.Proofs.YtbjipcpoiiegkaaGreatDoor
namespace Go.Proofs.YtbjipcpoiiegkaaGreatDoor
open Go.RowKit

/-- What is said does not hang on what block b's first cell holds. -/
def Blind {β : Type} (b : Nat) (J : β → World → Prop) : Prop := ∀ s W v, J s W → J s (W.setCell ⟨b, 0, none⟩ v)
/-- The iterator hands on xs, one after the other, and writes nothing but block b's first cell. -/
def Feeds {α : Type} (F : Fence) (n : Nat) (P : Program) (g : Nat) (lb : Array Value) (encs : α → Array Value) (b : Nat) (Kp : World → World → Prop) (xs : List α) (W : World) : Prop :=
  ∀ (l : Nat) (J Jx : List α → World → Prop), Blind b J → Blind b Jx →
    (∀ pre x W1, J pre W1 → pre ++ [x] <+: xs → YieldAt F (n - 1) P l (encs x) W1 fun e W' => (e = .returned (.bool true) ∧ J (pre ++ [x]) W' ∧ Kp W1 W') ∨ (e = .returned (.bool false) ∧ Jx (pre ++ [x]) W')) →
    J [] W → CallsIn F n P g (#[.func (.yield l) #[] #[]] ++ lb) W fun e W' => (∃ v, e = .returned v) ∧ (J xs W' ∨ ∃ pre, Jx pre W')
/-- How a round may end: it goes on, or the function returns. -/
def RoundEnd (B : Nat) (Kp : World → World → Prop) (I R : World → Prop) (W : World) : Exit → Act → World → Prop
  | .normal, _, W' => KeepsFrom B W W' ∧ Kp W W' ∧ I W'
  | .ret, _, W' => KeepsFrom B W W' ∧ R W'
  | _, _, _ => False

theorem range_feeds {F : Fence} {n : Nat} {P : Program} {α : Type} {g : Operand} {ps : Array Tmp} {assign body : Code} {Q : Exit → Act → World → Prop} {a : Act} {w : World} (hro : F.round = none) (h1 : 1 ≤ n) {gf : Nat} {lb : Array Value}
    (hg : a.eval g = .func (.func gf) #[] lb) (hFg : F.fn gf) (eg : ∀ args w, (callFunc gf args).run P w = .ok (.enter gf args) w) {encs : α → Array Value} {b : Nat} {Kp : World → World → Prop} {xs : List α} (hb : b < w.heap.size)
    (hseq : ∀ W, Below w.heap.size w W → Feeds F (n - 1) P gf lb encs b Kp xs W) (hKt : ∀ {A B C : World}, Kp A B → Kp B C → Kp A C) (hKb : ∀ (W : World) (l : Nat) (o : Obj), w.heap.size ≤ l → Kp W (W.putObj l o)) (hps : ∀ x, (encs x).size = ps.size)
    (I R : List α → World → Prop) (hI : OwnFrom w.heap.size I) (hR : OwnFrom w.heap.size R) (hIb : Blind b I) (hRb : Blind b R) (h0 : I [] w) (a₁ : α → Act)
    (hassign : ∀ (l : Nat) (x : α) (W : World) (K : Act → World → Prop), K (a₁ x) W →
      assign.wpIn (F.inRound l) (n - 1 - 1) P (Exit.then K (fun _ _ _ => False)) { tmps := (ps.zip (encs x)).foldl (fun t (p, v) => t.setIfInBounds p v) a.tmps, defers := [] } W)
    (hbody : ∀ (l : Nat) (pre : List α) (x : α) (W : World), I pre W → pre ++ [x] <+: xs → body.wpIn (F.inRound l) (n - 1 - 1) P (RoundEnd w.heap.size Kp (I (pre ++ [x])) (R (pre ++ [x])) W) (a₁ x) W)
    (hdone : ∀ (D : Nat) (W : World), w.heap.size ≤ D → I xs W → W.heap[D]? = some (.deferred (some [])) → Q .normal { a with defers := { target := .collected D, args := #[] } :: a.defers } W)
    (hret : ∀ (D : Nat) (pre : List α) (W : World), w.heap.size ≤ D → R pre W → W.heap[D]? = some (.deferred (some [])) → Code.ret.wpIn F n P Q { a with defers := { target := .collected D, args := #[] } :: a.defers } W) :
    (Code.rangeFunc g ps assign body).wpIn F n P Q a w := by
  refine wpIn_rangeFunc fun fn hfn => ?_
  rw [hro]
  -- the loop's record in its three states, and the two blocks that the loop lays
  let rec0 : LoopState → Option Code → Loop := fun st pe => { state := st, pending := pe, fn := fn, tmps := a.tmps, params := ps, assign := assign, body := body, defers := w.heap.size }
  let s := w.heap.size
  let W0 := (w.alloc (.deferred (some []))).alloc (.loop (rec0 .ready none))
  have e0 : W0.heap[s]? = some (.deferred (some [])) := (Below.heap_alloc _ _ _ (by simp [s])).trans (World.alloc_heap_new w _)
  have e1 : W0.heap[s + 1]? = some (.loop (rec0 .ready none)) := by
    have := World.alloc_heap_new (w.alloc (.deferred (some []))) (.loop (rec0 .ready none))
    rwa [World.size_alloc] at this
  have hbel : Below w.heap.size w W0 := ((Below.refl _ w).alloc (Nat.le_refl _) _).alloc (by simp) _
  let Rec : Loop → World → Prop := fun r W => W.heap[s + 1]? = some (.loop r) ∧ W.heap[s]? = some (.deferred (some []))
  have blindRec : ∀ r W v, Rec r W → Rec r (W.setCell ⟨b, 0, none⟩ v) := fun r W v h =>
    ⟨(Below.heap_setCell W _ v (s + 1) (by show s + 1 ≠ b; omega)).trans h.1, (Below.heap_setCell W _ v s (by show s ≠ b; omega)).trans h.2⟩
  refine ⟨s + 1, [{ target := .collected s, args := #[] }], W0, { target := .fn (.func gf) lb, args := #[.func (.yield (s + 1)) #[] #[]] }, W0, gf, #[.func (.yield (s + 1)) #[] #[]] ++ lb, W0, run_enterLoop_outer _ _ _ _ _, ?_, ?_, ?_, fun _ => h1, ?_⟩
  · simp only [resolve, hg]
    simp [go_sem]
  · intro f' hf'
    simp [Target.leads] at hf'
    subst hf'
    exact hFg
  · simp [invoke, go_sem, eg]
  refine (hseq W0 hbel (s + 1) (fun pre W => I pre W ∧ Rec (rec0 .ready none) W) (fun pre W => R pre W ∧ Rec (rec0 .done (some .ret)) W)
    (fun pre W v h => ⟨hIb pre W v h.1, blindRec _ W v h.2⟩) (fun pre W v h => ⟨hRb pre W v h.1, blindRec _ W v h.2⟩) ?_ ⟨hI.alloc _ (hI.alloc _ h0), e1, e0⟩).mono ?_
  · -- one round
    rintro pre x W ⟨hi, hl, hk⟩ hx
    have hlt : s + 1 < W.heap.size := (Array.getElem?_eq_some_iff.1 hl).1
    refine ⟨fn, _, assign, body, run_yield hl (hps x), roundIn_of_wpIn hfn (hassign _ x W _ ⟨_, run_beginRound hl rfl, ?_⟩)⟩
    have hl2 : (W.putObj (s + 1) (.loop { rec0 .ready none with state := .busy })).heap[s + 1]? = some (.loop { rec0 .ready none with state := .busy }) := World.putObj_heap_same hlt
    have hk2 : (W.putObj (s + 1) (.loop { rec0 .ready none with state := .busy })).heap[s]? = some (.deferred (some [])) := (World.putObj_heap_other (by omega)).trans hk
    refine wpIn_mono (hbody _ pre x _ (hI.putObj _ hi (by omega) hl rfl) hx) ?_
    intro e a3 W3 hp
    have tail : KeepsFrom w.heap.size (W.putObj (s + 1) (.loop { rec0 .ready none with state := .busy })) W3 → W3.heap[s + 1]? = some (.loop { rec0 .ready none with state := .busy }) ∧ W3.heap[s]? = some (.deferred (some [])) ∧ s + 1 < W3.heap.size := fun h3 =>
      ⟨h3.same _ _ (by omega) hl2 rfl, h3.same _ _ (Nat.le_refl _) hk2 rfl, (Array.getElem?_eq_some_iff.1 (h3.same _ _ (by omega) hl2 rfl)).1⟩
    cases e with
    | normal =>
      obtain ⟨hk3, hkp, hi3⟩ := hp
      obtain ⟨t1, t2, t3⟩ := tail hk3
      exact ⟨_, _, run_endRound none t1, .inl ⟨rfl, ⟨hI.putObj _ hi3 (by omega) t1 rfl, World.putObj_heap_same t3, (World.putObj_heap_other (by omega)).trans t2⟩, hKt (hKt (hKb _ _ _ (by omega)) hkp) (hKb _ _ _ (by omega))⟩⟩
    | ret =>
      obtain ⟨hk3, hi3⟩ := hp
      obtain ⟨t1, t2, t3⟩ := tail hk3
      exact ⟨_, _, run_endRound (some .ret) t1, .inr ⟨rfl, hR.putObj _ hi3 (by omega) t1 rfl, World.putObj_heap_same t3, (World.putObj_heap_other (by omega)).trans t2⟩⟩
    | exit id => exact hp.elim
    | goto t => exact hp.elim
    | panic ch => exact hp.elim
    | outgrown => exact hp.elim
  · -- behind the iterator
    rintro e W2 ⟨⟨v, rfl⟩, (⟨hi, hl, hk⟩ | ⟨pre, hi, hl, hk⟩)⟩
    · exact ⟨none, _, run_endLoop hl (by simp [rec0]), hdone _ _ (Nat.le_refl _) (hI.putObj _ hi (by omega) hl rfl) ((World.putObj_heap_other (by omega)).trans hk)⟩
    · exact ⟨some .ret, _, run_endLoop hl (by simp [rec0]), hret _ pre _ (Nat.le_refl _) (hR.putObj _ hi (by omega) hl rfl) ((World.putObj_heap_other (by omega)).trans hk)⟩
end Go.Proofs.YtbjipcpoiiegkaaGreatDoor
namespace Go.Proofs.YtbjipcpoiiegkaaGreatDoor
open Go.RowKit Go.Shelf
attribute [local go_sem] Oper.semAt_some

theorem hid' {p : Prop} (h : p) : Hid p := h
theorem idx_lt {s : List UInt8} {c : UInt8} {o : Nat} (h : Lib.indexByte s c = o) : o < s.length := by
  have := (Lib.indexByte_some h).1
  exact (List.getElem?_eq_some_iff.1 this).1
/-- A text cut at its blanks. -/
def pieces (s : List UInt8) : List (List UInt8) :=
  if h : (Lib.indexByte s 32).toNat < s.length ∧ 0 ≤ Lib.indexByte s 32 then s.take (Lib.indexByte s 32).toNat :: pieces (s.drop ((Lib.indexByte s 32).toNat + 1)) else [s]
termination_by s.length
decreasing_by simp only [List.length_drop]; omega
theorem pieces_none {s : List UInt8} (h : Lib.indexByte s 32 = -1) : pieces s = [s] := by
  rw [pieces, dif_neg (by rw [h]; omega)]
theorem pieces_some {s : List UInt8} {o : Nat} (h : Lib.indexByte s 32 = o) : pieces s = s.take o :: pieces (s.drop (o + 1)) := by
  have := idx_lt h
  rw [pieces, dif_pos (by rw [h]; exact ⟨by simpa using this, by omega⟩), h]
  simp
theorem idx_cases (s : List UInt8) : Lib.indexByte s 32 = -1 ∨ ∃ o : Nat, Lib.indexByte s 32 = o := by
  have := Lib.indexByte_ge s 32
  by_cases h : Lib.indexByte s 32 = -1
  · exact .inl h
  · exact .inr ⟨(Lib.indexByte s 32).toNat, by omega⟩

theorem cut_front (l : List UInt8) (o : Nat) : (⟨l.toArray⟩ : ByteArray).extract 0 o = ⟨(l.take o).toArray⟩ := by
  apply ByteArray.ext
  rw [ByteArray.data_extract]
  simp
theorem cut_back (l : List UInt8) (o : Nat) : (⟨l.toArray⟩ : ByteArray).extract o l.length = ⟨(l.drop o).toArray⟩ := by
  apply ByteArray.ext
  rw [ByteArray.data_extract]
  simp only [List.extract_toArray, List.extract_eq_take_drop]
  rw [List.take_of_length_le (by rw [List.length_drop]; exact Nat.le_refl _)]
theorem set_one {w : World} {b : Nat} {x u : Value} {t : TypeId} (h : w.heap[b]? = some (.cells #[x] t (0, 0))) : (w.setCell ⟨b, 0, none⟩ u).heap[b]? = some (.cells #[u] t (0, 0)) := by
  have hlt : b < w.heap.size := (Array.getElem?_eq_some_iff.1 h).1
  have h' : w.heap[b] = .cells #[x] t (0, 0) := by simpa [Array.getElem?_eq_getElem hlt] using h
  show (w.heap.modify b _)[b]? = _
  rw [Array.getElem?_eq_getElem (by simpa using hlt), Array.getElem_modify_self, h']
  rfl
theorem set_far {w : World} {b c o : Nat} {u : Value} (h : c ≠ b) : (w.setCell ⟨b, 0, none⟩ u).cell? ⟨c, o, none⟩ = w.cell? ⟨c, o, none⟩ := by
  have := Below.heap_setCell w ⟨b, 0, none⟩ u c h
  simp [World.cell?, this]
/-- The three captured blocks lie as they lay. -/
def Kept (b0 b1 b2 : Nat) (W W' : World) : Prop := W'.heap[b0]? = W.heap[b0]? ∧ W'.heap[b1]? = W.heap[b1]? ∧ W'.heap[b2]? = W.heap[b2]?
theorem cell_heap {W W' : World} {b o : Nat} (h : W'.heap[b]? = W.heap[b]?) : W'.cell? ⟨b, o, none⟩ = W.cell? ⟨b, o, none⟩ := by simp [World.cell?, h]
theorem frozen_heap {W W' : World} {b o : Nat} (h : W'.heap[b]? = W.heap[b]?) : W'.frozen? ⟨b, o, none⟩ = W.frozen? ⟨b, o, none⟩ := by simp [World.frozen?, h]
/-- How much is left, read off the world. -/
def leftAt (b : Nat) (W : World) : Nat := match W.cell? ⟨b, 0, none⟩ with
  | some (.string x) => x.size
  | _ => 0

set_option maxRecDepth 100000 in
set_option maxHeartbeats 2000000 in
theorem split_feeds (n : Nat) (hn : 1 ≤ n) (b0 b1 b2 : Nat) (s : List UInt8) (W : World) (h01 : b0 ≠ b1) (h12 : b2 ≠ b1) (c0 : W.cell? ⟨b0, 0, none⟩ = some (.string ⟨#[32]⟩)) (c1 : W.heap[b1]? = some (.cells #[.string ⟨s.toArray⟩] 9 (0, 0)))
    (c2 : W.cell? ⟨b2, 0, none⟩ = some (.int .i64 0)) (hs : s.length ≤ 9223372036854775807) :
    Feeds Fence.wide n Tryz.prog 80 #[.pointer (some ⟨b0, 0, none⟩), .pointer (some ⟨b1, 0, none⟩), .pointer (some ⟨b2, 0, none⟩)] (fun x : List UInt8 => #[.string ⟨x.toArray⟩]) b1 (Kept b0 b1 b2) (pieces s) W := by
  intro l J Jx hJ hJx hY h0
  refine callsIn_of_wp Tryz.func80 rfl trivial ?_ rfl
  simp only [Tryz.ntmps80, List.size_toArray, List.length_cons, List.length_nil, Nat.reduceAdd, Nat.reduceSub, Array.replicate_succ, Array.replicate_zero, List.push_toArray, List.append_toArray, List.nil_append, List.cons_append]
  have k1 : W.cell? ⟨b1, 0, none⟩ = some (.string ⟨s.toArray⟩) := cell_of_one c1
  gi_wp2
  gi_loopw [7, 8] (fun _ _ wr => ∃ (pre : List (List UInt8)) (rest : List UInt8), pieces s = pre ++ pieces rest ∧ rest.length ≤ 9223372036854775807 ∧ wr.heap[b1]? = some (.cells #[.string ⟨rest.toArray⟩] 9 (0, 0)) ∧ wr.cell? ⟨b0, 0, none⟩ = some (.string ⟨#[32]⟩) ∧ wr.cell? ⟨b2, 0, none⟩ = some (.int .i64 0) ∧ J pre wr) (fun _ _ wr => leftAt b1 wr)
  case atStart => exact ⟨[], s, by simp, hs, c1, c0, c2, h0⟩
  case round =>
    clear c0 c1 c2 k1
    obtain ⟨pre, rest, hp, hl, c1, c0, c2, hj⟩ := hrel
    have k1 : wr.cell? ⟨b1, 0, none⟩ = some (.string ⟨rest.toArray⟩) := cell_of_one c1
    have hx := Tryz.strings_Index_one ⟨rest.toArray⟩ 32
    rcases idx_cases rest with hi | ⟨o, hi⟩
    · rw [hi] at hx
      obtain ⟨fn, tmps, assign, body, hy, hR⟩ := hY pre rest wr hj (by rw [hp, pieces_none hi]; exact List.prefix_rfl)
      gi_wp2_with (refine ⟨trivial, ?_⟩; gi_at_call 73; refine (callsIn_wide.2 (hx _)).mono ?_; rintro e w' ⟨rfl, rfl⟩)
      refine hR.mono ?_
      rintro e W3 (⟨rfl, hJ3, _⟩ | ⟨rfl, hx3⟩)
      · have hE : Hid (J (pieces s) W3) := hid' (by rw [hp, pieces_none hi]; exact hJ3)
        gi_wp2
        go_end0
        exact ⟨⟨_, rfl⟩, .inl hE.out⟩
      · gi_wp2
        go_end0
        exact ⟨⟨_, rfl⟩, .inr ⟨_, hx3⟩⟩
    · rw [hi] at hx
      have ho := idx_lt hi
      have hp2 : pieces s = pre ++ [rest.take o] ++ pieces (rest.drop (o + 1)) := by rw [hp, pieces_some hi]; simp
      obtain ⟨fn, tmps, assign, body, hy, hR⟩ := hY pre (rest.take o) wr hj (by rw [hp2]; exact List.prefix_append _ _)
      have HP : Hid (pieces s = pre ++ [rest.take o] ++ pieces (rest.drop (o + 1))) := hid' hp2
      clear hp hp2 hi
      have hx1 : (⟨rest.toArray⟩ : ByteArray).extract 0 o = ⟨(rest.take o).toArray⟩ := cut_front rest o
      have hx2 : (⟨rest.toArray⟩ : ByteArray).extract (o + 1) rest.length = ⟨(rest.drop (o + 1)).toArray⟩ := cut_back rest (o + 1)
      have hm0 : leftAt b1 wr = rest.length := by
        unfold leftAt
        rw [k1]
        simp [ByteArray.size]
      gi_wp2_with (refine ⟨trivial, ?_⟩; gi_at_call 73; refine (callsIn_wide.2 (hx _)).mono ?_; rintro e w' ⟨rfl, rfl⟩)
      refine hR.mono ?_
      rintro e W3 (⟨rfl, hJ3, hk0, hk1, hk2⟩ | ⟨rfl, hx3⟩)
      · have d1 : W3.heap[b1]? = some (.cells #[.string ⟨rest.toArray⟩] 9 (0, 0)) := hk1.trans c1
        have d0 : W3.cell? ⟨b0, 0, none⟩ = some (.string ⟨#[32]⟩) := (cell_heap hk0).trans c0
        have d2 : W3.cell? ⟨b2, 0, none⟩ = some (.int .i64 0) := (cell_heap hk2).trans c2
        have kk : W3.cell? ⟨b1, 0, none⟩ = some (.string ⟨rest.toArray⟩) := cell_of_one d1
        have ff : W3.frozen? ⟨b1, 0, none⟩ = false := by simp [World.frozen?, d1]
        clear c0 c1 c2 k1 hk0 hk1 hk2 hR hy hj
        have e1 := set_one (u := .string ⟨(rest.drop (o + 1)).toArray⟩) d1
        have m1 : leftAt b1 (W3.setCell ⟨b1, 0, none⟩ (.string ⟨(rest.drop (o + 1)).toArray⟩)) = (rest.drop (o + 1)).length := by
          unfold leftAt
          rw [cell_of_one e1]
          simp [ByteArray.size]
        gi_wp2
        refine ⟨⟨_, rest.drop (o + 1), HP.out, by rw [List.length_drop]; omega, e1, (set_far h01).trans d0, (set_far h12).trans d2, hJ _ _ _ hJ3⟩, ?_⟩
        rw [m1, hm0, List.length_drop]
        omega
      · gi_wp2
        refine bodyPost_ret (results_none rfl _ _ _) rfl ?_
        exact ⟨⟨_, rfl⟩, .inr ⟨_, hx3⟩⟩
end Go.Proofs.YtbjipcpoiiegkaaGreatDoor
