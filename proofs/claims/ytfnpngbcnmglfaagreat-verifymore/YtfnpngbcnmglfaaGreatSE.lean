/- shape.walk, for any visitor. shape.pair. shape.leadToEnds. -/
import Derived.Test.YtfnpngbcnmglfaaGreatSA
import Derived.Test.YtfnpngbcnmglfaaGreatAN
namespace Go.Proofs.YtfnpngbcnmglfaaGreat
open Go.RowKit
/-- The blocks behind these operations; none, where one may not stand. -/
def runS : List Int → Int → List Blk → Option (List Blk)
  | [], _, L => some L
  | n :: ns, x, L => if standS n L = true then runS ns (x + 1) (stepS n x L) else none
theorem runS_append : ∀ (a b : List Int) (x : Int) (L : List Blk), runS (a ++ b) x L = (runS a x L).bind (runS b (x + a.length))
  | [], b, x, L => by simp [runS]
  | n :: a, b, x, L => by
    simp only [List.cons_append, runS]
    split
    · rw [runS_append a b]
      congr 2
      simp; omega
    · rfl
def opsI (cs : List (Int × Int)) : List Int := cs.map Prod.fst
theorem run_next {cs : List (Int × Int)} {k : Nat} {L : List Blk} (hk : k < cs.length) (h : runS (opsI (cs.take k)) 0 [] = some L) (hs : standS cs[k].1 L = true) : runS (opsI (cs.take (k + 1))) 0 [] = some (stepS cs[k].1 k L) := by
  rw [List.take_succ_eq_append_getElem hk, opsI, List.map_append, runS_append, show List.map Prod.fst (cs.take k) = opsI (cs.take k) from rfl, h]
  simp only [Option.bind, List.map_cons, List.map_nil, runS, if_pos hs]
  congr 2
  simp [opsI]; omega
theorem run_stops {cs : List (Int × Int)} {k : Nat} {L : List Blk} (hk : k < cs.length) (h : runS (opsI (cs.take k)) 0 [] = some L) (hs : standS cs[k].1 L = false) : runS (opsI cs) 0 [] = none := by
  have e : cs = cs.take k ++ cs[k] :: cs.drop (k + 1) := by rw [← List.drop_eq_getElem_cons hk, List.take_append_drop]
  have e2 : opsI cs = opsI (cs.take k) ++ cs[k].1 :: opsI (cs.drop (k + 1)) := by
    rw [opsI, opsI, opsI]
    conv => lhs; rw [e]
    rw [List.map_append, List.map_cons]
  rw [e2, runS_append, h]
  simp only [Option.bind, runS, hs]
  rfl
theorem step_len {n x : Int} {L : List Blk} (hl : L.length ≤ 8) (hs : standS n L = true) : (stepS n x L).length ≤ 8 := by
  unfold stepS
  split
  · rename_i h
    simp only [standS, if_pos h, decide_eq_true_eq] at hs
    simp; omega
  · split
    · cases hg : L.getLast? with
      | none => exact hl
      | some b =>
        have : L ≠ [] := by rintro rfl; cases hg
        have := List.length_pos_iff.2 this
        simp; omega
    · split
      · simp; omega
      · exact hl
/-- Boxes of instructions are as they were. -/
def KeptI (W W' : World) : Prop := W.heap.size ≤ W'.heap.size ∧ ∀ (k : Nat) (cur : Array Value) (z : Nat × Nat), W.heap[k]? = some (.cells cur 83 z) → W'.heap[k]? = some (.cells cur 83 z)
theorem KeptI.of_mv {W W' : World} (h : Mv W W') : KeptI W W' := ⟨h.1, fun k cur z hk => h.2 k cur _ z (by decide) (by decide) hk⟩
theorem KeptI.trans {A B C : World} (h : KeptI A B) (g : KeptI B C) : KeptI A C := ⟨Nat.le_trans h.1 g.1, fun k cur z hk => g.2 k cur z (h.2 k cur z hk)⟩
theorem two_cell {w : World} {b : Nat} {x y : Value} {t : TypeId} (h : w.heap[b]? = some (.cells #[x, y] t (0, 0))) : w.cell? ⟨b, 0, none⟩ = some x ∧ w.cell? ⟨b, 1, none⟩ = some y := by
  simp [World.cell?, h]
/-- How walk ends: with a state of the visitor's. -/
def WalkEnd (cs : List (Int × Int)) (J : Nat → World → Prop) (e : Ending) (w' : World) : Prop := e = .returned (.bool (decide (runS (opsI cs) 0 [] = some []))) ∧ ∃ k, J k w' ∧ (runS (opsI cs) 0 [] = some [] → k = cs.length)
set_option maxRecDepth 100000 in
set_option maxHeartbeats 1000000 in
theorem walk_any (cs : List (Int × Int)) (ca : Option Addr) (cc cb co : Nat) (hca : cs = [] ∨ ca = some ⟨cb, co, none⟩) (hn : cs.length ≤ 9000000000000) (W : World) (J : Nat → World → Prop)
    (hJc : ∀ k w, J k w → ∀ j (h : j < cs.length), w.cell? ⟨cb, co + j * 2, none⟩ = some (.int .i64 cs[j].1) ∧ w.cell? ⟨cb, co + j * 2 + 1, none⟩ = some (.int .i64 cs[j].2))
    (hJs : ∀ k w w', J k w → Mv w w' → Below W.heap.size w w' → J k w')
    (F : Nat) (fr : Array Value) (eF : ∀ args w, (callFunc F args).run Tryz.prog w = .ok (.enter F args) w)
    (hF : ∀ (k : Nat) (hk : k < cs.length) (p : Nat) (L : List Blk) (a : Option Addr) (cap : Nat) (w : World), W.heap.size ≤ p → runS (opsI (cs.take k)) 0 [] = some L → standS cs[k].1 L = true → L.length ≤ 8 → Stk (p + 1) p L a cap w → J k w →
      Calls Tryz.prog F (#[.int .i64 k, .pointer (some ⟨p, 0, none⟩)] ++ fr) w fun e w' => e = .returned (.tuple #[]) ∧ (∃ a cap, Stk (p + 1) p L a cap w') ∧ J (k + 1) w' ∧ KeptI w w')
    (h0 : J 0 W) : Calls Tryz.prog 132 #[.slice ca cs.length cc, .func (.func F) #[] fr] W (WalkEnd cs J) := by
  have HW : Hid (Stk (W.heap.size + 1) W.heap.size [] none 0 (W.alloc (.cells #[.slice none 0 0] 215)) ∧ J 0 (W.alloc (.cells #[.slice none 0 0] 215))) := by
    have hb := (Below.refl _ W).alloc (Nat.le_refl _) (.cells #[.slice none 0 0] 215)
    exact hid6 ⟨Stk.new W, hJs _ _ _ h0 (Mv.below hb) hb⟩
  obtain ⟨n, hn'⟩ : ∃ n, n = cs.length := ⟨_, rfl⟩
  have HN := hid6 hn'
  rw [← hn'] at hn ⊢
  have HS := hid6 hJs
  have HF := hid6 hF
  have HC := hid6 hJc
  clear hJs hF hJc hn' h0
  go_enter Tryz.func132, Tryz.ntmps132
  go_wp2_with fail
  go_loopw [12] (fun i wr => ∃ (k : Nat) (L : List Blk) (a : Option Addr) (cap : Nat), k ≤ n ∧ i = .int .i64 k ∧ Hid (runS (opsI (cs.take k)) 0 [] = some L ∧ L.length ≤ 8) ∧ Hid (Stk (W.heap.size + 1) W.heap.size L a cap wr ∧ J k wr) ∧ W.heap.size < wr.heap.size) (fun i _ => n - (intOf i).toNat)
  case atStart => exact ⟨0, [], none, 0, Nat.zero_le _, rfl, hid6 ⟨rfl, by simp⟩, HW, by simp⟩
  case round =>
    obtain ⟨k, L, a, cap, hk, rfl, HL, HJ, hsz⟩ := hrel
    clear HW
    by_cases hlt : k < n
    · have kl : k < cs.length := by have := HN.out; omega
      obtain ⟨c0, c1⟩ := HC.out _ _ HJ.out.2 k kl
      have ha : ca = some ⟨cb, co, none⟩ := by
        rcases hca with h | h
        · rw [h] at kl; cases kl
        · exact h
      subst ha
      obtain ⟨nn, hnn⟩ : ∃ nn, nn = cs[k].1 := ⟨_, rfl⟩
      obtain ⟨na, hna⟩ : ∃ na, na = cs[k].2 := ⟨_, rfl⟩
      rw [← hnn] at c0
      rw [← hna] at c1
      have HX := hid6 hnn
      clear hnn hna hca
      have bA := (Below.refl _ wr).alloc (Nat.le_refl _) (.cells #[.int .i64 nn, .int .i64 na] 83)
      have hx0 := hid6 (heap_alloc_new wr (.cells #[.int .i64 nn, .int .i64 na] 83))
      have HA : Hid (Stk (W.heap.size + 1) W.heap.size L a cap (wr.alloc (.cells #[.int .i64 nn, .int .i64 na] 83)) ∧ J k (wr.alloc (.cells #[.int .i64 nn, .int .i64 na] 83))) := hid6 ⟨HJ.out.1.keep bA, HS.out _ _ _ HJ.out.2 (Mv.below bA) (bA.mono (by omega))⟩
      have hl8 := HL.out.2
      have hM := may_any nn _ HA.out.1 (by omega) _ (hid6 rfl)
      cases hst : standS nn L with
      | false =>
        rw [hst] at hM
        have HE : Hid (runS (opsI cs) 0 [] = none) := hid6 (run_stops kl HL.out.1 (by rw [← HX.out]; exact hst))
        clear hst
        go_wp2_with (first | (go_at_call 175; refine hM.mono ?_; rintro e w2 ⟨rfl, hb2⟩) | fail)
        go_ret
        refine ⟨by rw [HE.out]; rfl, k, HS.out _ _ _ HA.out.2 (Mv.below hb2) (hb2.mono (by rw [World.size_alloc]; omega)), fun h => by rw [HE.out] at h; cases h⟩
      | true =>
        rw [hst] at hM
        have HT := hid6 hst
        clear hst bA
        go_wp2_with (first
          | (go_at_call 175; refine hM.mono ?_; rintro e w2 ⟨rfl, hb2⟩; have H2 := hid6 (And.intro (HA.out.1.keep hb2) (HS.out _ _ _ HA.out.2 (Mv.below hb2) (hb2.mono (by rw [World.size_alloc]; omega)))); have hx2 := hid6 ((hb2.block wr.heap.size (by simp)).trans hx0.out); clear hM)
          | (go_at_fn F; refine (HF.out k kl W.heap.size L _ _ _ (Nat.le_refl _) HL.out.1 (by rw [← HX.out]; exact HT.out) hl8 H2.out.1 H2.out.2).mono ?_; rintro e w3 ⟨rfl, ⟨a3, cap3, S3⟩, J3, K3⟩; have hx3 := K3.2 _ _ _ hx2.out; obtain ⟨d0, d1⟩ := two_cell hx3; have H3 := hid6 S3; have hy3 := hid6 hx3; clear S3 hx3)
          | (go_at_call 176; refine (step_any nn (k : Int) _ H3.out (by omega) HT.out).mono ?_; rintro e w4 ⟨rfl, ⟨a4, cap4, S4⟩, b4, m4⟩)
          | fail)
        refine ⟨⟨k + 1, stepS nn k L, a4, cap4, by omega, by simp, hid6 ⟨?_, step_len hl8 HT.out⟩, hid6 ⟨S4, HS.out _ _ _ J3 m4 b4⟩, blk_lt S4.box⟩, ?_⟩
        · have := run_next kl HL.out.1 (by rw [← HX.out]; exact HT.out)
          rw [← HX.out] at this
          exact this
        · simp [intOf]; omega
    · have : k = n := by omega
      subst this
      have hE : Hid (runS (opsI cs) 0 [] = some L) := hid6 (by have := HL.out.1; rwa [List.take_of_length_le (by rw [← HN.out]; exact Nat.le_refl _)] at this)
      have hSz := size6_any _ HJ.out.1
      obtain ⟨q, hq⟩ : ∃ q, q = L.length := ⟨_, rfl⟩
      rw [← hq] at hSz
      have hq8 : q ≤ 8 := by rw [hq]; exact HL.out.2
      have HQ := hid6 hq
      clear hq
      go_wp2_with (first | (go_at_call 177; refine hSz.mono ?_; rintro e w2 ⟨rfl, rfl⟩) | fail)
      go_ret
      refine ⟨?_, k, HJ.out.2, fun _ => HN.out⟩
      rw [hE.out]
      have : ((q : Int) == 0) = decide (some L = some []) := by
        rw [HQ.out]
        cases L with
        | nil => rfl
        | cons x L => simp; omega
      exact congrArg (fun b => Ending.returned (.bool b)) this
end Go.Proofs.YtfnpngbcnmglfaaGreat
namespace Go.Proofs.YtfnpngbcnmglfaaGreat
open Go.RowKit
/-- A row of numbers in a block of its own. -/
def NumBlk (g : Nat) (ms : List Int) (W : World) : Prop := W.heap[g]? = some (.cells (cellsN ms).toArray 3 (0, 0))
theorem NumBlk.at {g : Nat} {ms : List Int} {W : World} (h : NumBlk g ms W) (j : Nat) (hj : j < ms.length) : W.cell? ⟨g, j, none⟩ = some (.int .i64 ms[j]) ∧ W.frozen? ⟨g, j, none⟩ = false := by
  unfold NumBlk at h
  refine ⟨?_, ?_⟩
  · rw [Lib.cell_of_heap h]; simp [cellsN, hj]
  · exact frozen_of_row _ _ _ _ _ h
theorem NumBlk.set {g : Nat} {ms : List Int} {W : World} (h : NumBlk g ms W) (j : Nat) (x : Int) : NumBlk g (ms.set j x) (W.setCell ⟨g, j, none⟩ (.int .i64 x)) := by
  unfold NumBlk at h ⊢
  rw [heap_setCell_same _ _ _ _ _ _ h]
  congr 2
  simp [cellsN, List.map_set]
theorem NumBlk.alloc {g : Nat} {ms : List Int} {W : World} (h : NumBlk g ms W) (o : Obj) : NumBlk g ms (W.alloc o) := (((Below.refl _ W).alloc (Nat.le_refl _) o).block g (blk_lt h)).trans h
/-- Only block g has turned; new ones may be there. -/
def Only (g : Nat) (W W' : World) : Prop := W.grownBy W' (some g)
theorem Only.refl (g : Nat) (W : World) : Only g W W := ⟨rfl, rfl, rfl, Nat.le_refl _, fun _ _ _ => rfl⟩
theorem Only.trans {g : Nat} {A B C : World} (h : Only g A B) (k : Only g B C) : Only g A C := ⟨k.os.trans h.os, k.tape.trans h.tape, k.output.trans h.output, Nat.le_trans h.size k.size, fun j hj hne => (k.block j (Nat.lt_of_lt_of_le hj h.size) hne).trans (h.block j hj hne)⟩
theorem Only.set (g j : Nat) (u : Value) (W : World) : Only g W (W.setCell ⟨g, j, none⟩ u) := ⟨rfl, rfl, rfl, by simp, fun k _ hk => heap_setCell_other W ⟨g, j, none⟩ k u (fun e => hk (by simp [e]))⟩
theorem Only.below {g : Nat} {W W' : World} (h : Below W.heap.size W W') : Only g W W' := ⟨h.os, h.tape, h.output, h.size, fun k hk _ => h.block k hk⟩
theorem Only.obj {g b : Nat} {W W' : World} {o : Obj} (h : Only g W W') (hb : W.heap[b]? = some o) (hne : b ≠ g) : W'.heap[b]? = some o := (h.block b (blk_lt hb) (fun e => hne (by simpa using e))).trans hb
/-- Where the parts of a block that closes at t lead. -/
def pairS (ms : List Int) (s : Nat) (o : Option Nat) (t : Nat) : List Int :=
  match o with
  | none => (ms.set s (t : Int)).set t (s : Int)
  | some o => ((((ms.set s (t : Int)).set t (s : Int)).set s (o : Int)).set o (t : Int))
theorem three_cell {w : World} {b : Nat} {x y z : Value} {t : TypeId} (h : w.heap[b]? = some (.cells #[x, y, z] t (0, 0))) : w.cell? ⟨b, 0, none⟩ = some x ∧ w.cell? ⟨b, 1, none⟩ = some y ∧ w.cell? ⟨b, 2, none⟩ = some z := by
  simp [World.cell?, h]
def oInt : Option Nat → Int
  | none => -1
  | some o => o
set_option maxRecDepth 100000 in
set_option maxHeartbeats 1000000 in
theorem pair_any (g : Nat) (ms : List Int) (n cap : Nat) (hn : ms.length = n) (s t : Nat) (o : Option Nat) (l : Bool) (hs : s < n) (ht : t < n) (ho : ∀ x, o = some x → x < n) (W : World) (h : NumBlk g ms W) :
    Calls Tryz.prog 134 #[.slice (some ⟨g, 0, none⟩) n cap, (Blk.mk s (oInt o) l).v, .int .i64 t] W fun e w' => e = .returned (.tuple #[]) ∧ NumBlk g (pairS ms s o t) w' ∧ Only g W w' := by
  have hgl := blk_lt h
  obtain ⟨p0, z0⟩ := h.at s (by omega)
  obtain ⟨p1, z1⟩ := h.at t (by omega)
  simp only [Blk.v]
  have h1 := h.set s (t : Int)
  obtain ⟨q1, y1⟩ := h1.at t (by simp; omega)
  obtain ⟨q2, y2⟩ := h1.at s (by simp; omega)
  have h2 := h1.set t (s : Int)
  obtain ⟨r1, x1⟩ := h2.at s (by simp; omega)
  generalize ms[s] = ms0 at p0
  generalize ms[t] = ms1 at p1
  generalize (ms.set s (t : Int))[t]'(by simp; omega) = ms2 at q1
  generalize (ms.set s (t : Int))[s]'(by simp; omega) = ms3 at q2
  generalize ((ms.set s (t : Int)).set t (s : Int))[s]'(by simp; omega) = ms4 at r1
  have H1 := hid6 h1
  have H2 := hid6 h2
  have HH := hid6 h
  clear h h1 h2
  cases o with
  | none =>
    simp only [oInt]
    go_enter Tryz.func134, Tryz.ntmps134
    go_wp2_with fail
    go_region_law fail
    all_goals
      go_wp2_with fail
    all_goals
      go_end0
      exact ⟨rfl, H2.out.alloc _, (((Only.set g s _ W).trans (Only.set g t _ _)).trans (Only.below ((Below.refl _ _).alloc (Nat.le_refl _) _).drew))⟩
  | some o =>
    have ho2 := ho o rfl
    clear ho
    have h3 := H2.out.set s (o : Int)
    obtain ⟨v1, u1⟩ := h3.at o (by simp; omega)
    generalize (((ms.set s (t : Int)).set t (s : Int)).set s (o : Int))[o]'(by simp; omega) = ms5 at v1
    have H4 := hid6 (h3.set o (t : Int))
    clear h3
    have hne : ((o : Int) == -1) = false := by simp
    simp only [oInt]
    go_enter Tryz.func134, Tryz.ntmps134
    go_wp2_with fail
    go_region_law fail
    all_goals
      go_wp2_with fail
    all_goals
      go_region_law fail
    all_goals
      go_end0
      exact ⟨rfl, H4.out.alloc _, ((((Only.set g s _ W).trans (Only.set g t _ _)).trans ((Only.set g s _ _).trans (Only.set g o _ _))).trans (Only.below ((Below.refl _ _).alloc (Nat.le_refl _) _).drew.drew))⟩
end Go.Proofs.YtfnpngbcnmglfaaGreat
namespace Go.Proofs.YtfnpngbcnmglfaaGreat
open Go.RowKit
/-- Leaves lead on, from place k on. -/
def leadS (ops : List Int) (ms : List Int) : Nat → List Int
  | 0 => ms
  | k + 1 => let r := leadS ops ms k
    if ops[k]? = some 52 then r.set k (r.getD (r.getD k 0).toNat 0) else r
theorem leadS_len (ops ms : List Int) : ∀ k, (leadS ops ms k).length = ms.length
  | 0 => rfl
  | k + 1 => by
    simp only [leadS]
    split
    · rw [List.length_set, leadS_len ops ms k]
    · exact leadS_len ops ms k
theorem leadS_same (ops ms : List Int) : ∀ k j, k ≤ j → (leadS ops ms k).getD j 0 = ms.getD j 0
  | 0, _, _ => rfl
  | k + 1, j, h => by
    simp only [leadS]
    split
    · rw [List.getD_eq_getElem?_getD, List.getElem?_set_ne (by omega), ← List.getD_eq_getElem?_getD]
      exact leadS_same ops ms k j (by omega)
    · exact leadS_same ops ms k j (by omega)
set_option maxRecDepth 100000 in
set_option maxHeartbeats 1000000 in
theorem lead_any (cs : List (Int × Int)) (ca : Option Addr) (cc cb co : Nat) (hca : cs = [] ∨ ca = some ⟨cb, co, none⟩) (hn : cs.length ≤ 9000000000000) (g : Nat) (ms : List Int) (hml : ms.length = cs.length) (cap : Nat) (hcap : cs.length ≤ cap) (hgc : cb ≠ g)
    (hm : ∀ k (h : k < cs.length), cs[k].1 = 52 → 0 ≤ ms.getD k 0 ∧ ms.getD k 0 < cs.length)
    (W : World) (hc : ∀ j (h : j < cs.length), W.cell? ⟨cb, co + j * 2, none⟩ = some (.int .i64 cs[j].1) ∧ W.cell? ⟨cb, co + j * 2 + 1, none⟩ = some (.int .i64 cs[j].2)) (h : NumBlk g ms W) :
    Calls Tryz.prog 137 #[.slice ca cs.length cc, .slice (some ⟨g, 0, none⟩) cs.length cap] W fun e w' => e = .returned (.tuple #[]) ∧ NumBlk g (leadS (opsI cs) ms cs.length) w' ∧ Only g W w' := by
  obtain ⟨n, hn'⟩ : ∃ n, n = cs.length := ⟨_, rfl⟩
  have HN := hid6 hn'
  rw [← hn'] at hn hcap hml ⊢
  have HC := hid6 hc
  have HM := hid6 hm
  have H0 := hid6 h
  have HL := hid6 hml
  clear hc hm h hml hn'
  go_enter Tryz.func137, Tryz.ntmps137
  go_wp2_with fail
  go_loopw [8] (fun i wr => ∃ k : Nat, k ≤ n ∧ i = .int .i64 k ∧ Hid (NumBlk g (leadS (opsI cs) ms k) wr ∧ Only g W wr)) (fun i _ => n - (intOf i).toNat)
  case atStart => exact ⟨0, Nat.zero_le _, rfl, hid6 ⟨H0.out, Only.refl _ _⟩⟩
  case round =>
    obtain ⟨k, hk, rfl, HR⟩ := hrel
    by_cases hlt : k < n
    · have kl : k < cs.length := by have := HN.out; omega
      have hcw : wr.cell? ⟨cb, co + k * 2, none⟩ = some (.int .i64 cs[k].1) ∧ wr.cell? ⟨cb, co + k * 2 + 1, none⟩ = some (.int .i64 cs[k].2) := by
        obtain ⟨c0, c1⟩ := HC.out k kl
        exact ⟨(HR.out.2.cell c0 (by simpa using hgc)), (HR.out.2.cell c1 (by simpa using hgc))⟩
      obtain ⟨c0, c1⟩ := hcw
      have ha : ca = some ⟨cb, co, none⟩ := by
        rcases hca with h | h
        · rw [h] at kl; cases kl
        · exact h
      subst ha
      have hop : (opsI cs)[k]? = some cs[k].1 := by simp [opsI, kl]
      have HM2 := hid6 (HM.out k kl)
      obtain ⟨nn, hnn⟩ : ∃ nn, nn = cs[k].1 := ⟨_, rfl⟩
      obtain ⟨na, hna⟩ : ∃ na, na = cs[k].2 := ⟨_, rfl⟩
      rw [← hnn] at c0 hop HM2
      rw [← hna] at c1
      clear hnn hna hca
      by_cases h52 : nn = 52
      · subst h52
        obtain ⟨ml, mu⟩ := HM2.out rfl
        obtain ⟨R, hR⟩ : ∃ R, R = leadS (opsI cs) ms k := ⟨_, rfl⟩
        have hB := HR.out.1
        rw [← hR] at hB
        have hRl : R.length = n := by rw [hR, leadS_len]; exact HL.out
        have hRk : R.getD k 0 = ms.getD k 0 := by rw [hR]; exact leadS_same _ _ _ _ (Nat.le_refl _)
        obtain ⟨q, hq⟩ : ∃ q : Nat, R.getD k 0 = (q : Int) := ⟨(ms.getD k 0).toNat, by rw [hRk]; omega⟩
        have hqn : q < n := by rw [hRk] at hq; have := HN.out; omega
        have HE : Hid (leadS (opsI cs) ms (k + 1) = R.set k (R.getD q 0)) := hid6 (by simp only [leadS]; rw [if_pos hop, ← hR, hq]; rfl)
        obtain ⟨p0, z0⟩ := hB.at k (by omega)
        obtain ⟨p1, z1⟩ := hB.at q (by omega)
        have e0 : R[k]'(by omega) = (q : Int) := by rw [← hq, List.getD_eq_getElem?_getD, List.getElem?_eq_getElem (by omega)]; rfl
        have e1 : R[q]'(by omega) = R.getD q 0 := by rw [List.getD_eq_getElem?_getD, List.getElem?_eq_getElem (by omega)]; rfl
        rw [e0] at p0
        rw [e1] at p1
        generalize R.getD q 0 = y at p1 HE
        have H2 := hid6 (hB.set k y)
        have hgl := blk_lt hB
        clear hB e0 e1 hq hRk hR hRl mu ml hop
        go_wp2_with fail
        refine ⟨⟨k + 1, by omega, by simp, hid6 ⟨?_, ?_⟩⟩, ?_⟩
        · rw [HE.out]; exact H2.out.alloc _
        · exact HR.out.2.trans ((Only.set g k _ _).trans (Only.below ((Below.refl _ _).alloc (Nat.le_refl _) _)))
        · simp [intOf]; omega
      · have HE : Hid (leadS (opsI cs) ms (k + 1) = leadS (opsI cs) ms k) := hid6 (by simp only [leadS]; rw [if_neg (by rw [hop]; simpa using h52)])
        clear hop HM2
        go_wp2_with fail
        refine ⟨⟨k + 1, by omega, by simp, hid6 ⟨?_, ?_⟩⟩, ?_⟩
        · rw [HE.out]; exact HR.out.1.alloc _
        · exact HR.out.2.trans (Only.below ((Below.refl _ _).alloc (Nat.le_refl _) _))
        · simp [intOf]; omega
    · have : k = n := by omega
      subst this
      go_wp2_with fail
      go_end0
      exact ⟨rfl, HR.out.1, HR.out.2⟩
end Go.Proofs.YtfnpngbcnmglfaaGreat
