/- shape.pair. shape.leadToEnds. -/
import Derived.Test.YtodagpmcmjleaaaSE
namespace Go.Proofs.Ytodagpmcmjleaaa
open Go.RowKit
/-- A row of numbers in a block of its own. -/
def NumBlk (g : Nat) (ms : List Int) (W : World) : Prop := W.heap[g]? = some (.cells (cellsN ms).toArray 3 (0, 0))
theorem NumBlk.at {g : Nat} {ms : List Int} {W : World} (h : NumBlk g ms W) (j : Nat) (hj : j < ms.length) : W.cell? ⟨g, j, none⟩ = some (.int .i64 ms[j]) ∧ W.frozen? ⟨g, j, none⟩ = false := by
  unfold NumBlk at h
  refine ⟨?_, ?_⟩
  · rw [Lib.cell_of_heap h]; simp [cellsN, hj]
  · exact frozen_of_row _ _ _ _ _ h
theorem NumBlk.set {g : Nat} {ms : List Int} {W : World} (h : NumBlk g ms W) (j : Nat) (x : Int) : NumBlk g (ms.set j x) (W.setCell ⟨g, j, none⟩ (.int .i64 x)) := by
  unfold NumBlk at h ⊢
  rw [heap_setCell_same _ _ _ _ _ _ h]
  congr 2
  simp [cellsN, List.map_set]
theorem NumBlk.alloc {g : Nat} {ms : List Int} {W : World} (h : NumBlk g ms W) (o : Obj) : NumBlk g ms (W.alloc o) := (((Below.refl _ W).alloc (Nat.le_refl _) o).block g (blk_lt h)).trans h
/-- Only block g has turned; new ones may be there. -/
def Only (g : Nat) (W W' : World) : Prop := W.grownBy W' (some g)
theorem Only.refl (g : Nat) (W : World) : Only g W W := ⟨rfl, rfl, rfl, Nat.le_refl _, fun _ _ _ => rfl⟩
theorem Only.trans {g : Nat} {A B C : World} (h : Only g A B) (k : Only g B C) : Only g A C := ⟨k.os.trans h.os, k.tape.trans h.tape, k.output.trans h.output, Nat.le_trans h.size k.size, fun j hj hne => (k.block j (Nat.lt_of_lt_of_le hj h.size) hne).trans (h.block j hj hne)⟩
theorem Only.set (g j : Nat) (u : Value) (W : World) : Only g W (W.setCell ⟨g, j, none⟩ u) := ⟨rfl, rfl, rfl, by simp, fun k _ hk => heap_setCell_other W ⟨g, j, none⟩ k u (fun e => hk (by simp [e]))⟩
theorem Only.below {g : Nat} {W W' : World} (h : Below W.heap.size W W') : Only g W W' := ⟨h.os, h.tape, h.output, h.size, fun k hk _ => h.block k hk⟩
theorem Only.obj {g b : Nat} {W W' : World} {o : Obj} (h : Only g W W') (hb : W.heap[b]? = some o) (hne : b ≠ g) : W'.heap[b]? = some o := (h.block b (blk_lt hb) (fun e => hne (by simpa using e))).trans hb
/-- Where the parts of a block that closes at t lead. -/
def pairS (ms : List Int) (s : Nat) (o : Option Nat) (t : Nat) : List Int :=
  match o with
  | none => (ms.set s (t : Int)).set t (s : Int)
  | some o => ((((ms.set s (t : Int)).set t (s : Int)).set s (o : Int)).set o (t : Int))
theorem three_cell {w : World} {b : Nat} {x y z : Value} {t : TypeId} (h : w.heap[b]? = some (.cells #[x, y, z] t (0, 0))) : w.cell? ⟨b, 0, none⟩ = some x ∧ w.cell? ⟨b, 1, none⟩ = some y ∧ w.cell? ⟨b, 2, none⟩ = some z := by
  simp [World.cell?, h]
def oInt : Option Nat → Int
  | none => -1
  | some o => o
set_option maxRecDepth 100000 in
set_option maxHeartbeats 1000000 in
theorem pair_any (g : Nat) (ms : List Int) (n cap : Nat) (hn : ms.length = n) (s t : Nat) (o : Option Nat) (l : Bool) (hs : s < n) (ht : t < n) (ho : ∀ x, o = some x → x < n) (W : World) (h : NumBlk g ms W) :
    Calls Try.prog 27 #[.slice (some ⟨g, 0, none⟩) n cap, (Blk.mk s (oInt o) l).v, .int .i64 t] W fun e w' => e = .returned (.tuple #[]) ∧ NumBlk g (pairS ms s o t) w' ∧ Only g W w' := by
  have hgl := blk_lt h
  obtain ⟨p0, z0⟩ := h.at s (by omega)
  obtain ⟨p1, z1⟩ := h.at t (by omega)
  simp only [Blk.v]
  have h1 := h.set s (t : Int)
  obtain ⟨q1, y1⟩ := h1.at t (by simp; omega)
  obtain ⟨q2, y2⟩ := h1.at s (by simp; omega)
  have h2 := h1.set t (s : Int)
  obtain ⟨r1, x1⟩ := h2.at s (by simp; omega)
  generalize ms[s] = ms0 at p0
  generalize ms[t] = ms1 at p1
  generalize (ms.set s (t : Int))[t]'(by simp; omega) = ms2 at q1
  generalize (ms.set s (t : Int))[s]'(by simp; omega) = ms3 at q2
  generalize ((ms.set s (t : Int)).set t (s : Int))[s]'(by simp; omega) = ms4 at r1
  have H1 := hid6 h1
  have H2 := hid6 h2
  have HH := hid6 h
  clear h h1 h2
  cases o with
  | none =>
    simp only [oInt]
    go_enter Try.func27, Try.ntmps27
    go_wp2_with fail
    go_region_law fail
    all_goals
      go_wp2_with fail
    all_goals
      go_end0
      exact ⟨rfl, H2.out.alloc _, (((Only.set g s _ W).trans (Only.set g t _ _)).trans (Only.below ((Below.refl _ _).alloc (Nat.le_refl _) _).drew))⟩
  | some o =>
    have ho2 := ho o rfl
    clear ho
    have h3 := H2.out.set s (o : Int)
    obtain ⟨v1, u1⟩ := h3.at o (by simp; omega)
    generalize (((ms.set s (t : Int)).set t (s : Int)).set s (o : Int))[o]'(by simp; omega) = ms5 at v1
    have H4 := hid6 (h3.set o (t : Int))
    clear h3
    have hne : ((o : Int) == -1) = false := by simp
    simp only [oInt]
    go_enter Try.func27, Try.ntmps27
    go_wp2_with fail
    go_region_law fail
    all_goals
      go_wp2_with fail
    all_goals
      go_region_law fail
    all_goals
      go_end0
      exact ⟨rfl, H4.out.alloc _, ((((Only.set g s _ W).trans (Only.set g t _ _)).trans ((Only.set g s _ _).trans (Only.set g o _ _))).trans (Only.below ((Below.refl _ _).alloc (Nat.le_refl _) _).drew.drew))⟩
end Go.Proofs.Ytodagpmcmjleaaa
namespace Go.Proofs.Ytodagpmcmjleaaa
open Go.RowKit
/-- Leaves lead on, from place k on. -/
def leadS (ops : List Int) (ms : List Int) : Nat → List Int
  | 0 => ms
  | k + 1 => let r := leadS ops ms k
    if ops[k]? = some 52 then r.set k (r.getD (r.getD k 0).toNat 0) else r
theorem leadS_len (ops ms : List Int) : ∀ k, (leadS ops ms k).length = ms.length
  | 0 => rfl
  | k + 1 => by
    simp only [leadS]
    split
    · rw [List.length_set, leadS_len ops ms k]
    · exact leadS_len ops ms k
theorem leadS_same (ops ms : List Int) : ∀ k j, k ≤ j → (leadS ops ms k).getD j 0 = ms.getD j 0
  | 0, _, _ => rfl
  | k + 1, j, h => by
    simp only [leadS]
    split
    · rw [List.getD_eq_getElem?_getD, List.getElem?_set_ne (by omega), ← List.getD_eq_getElem?_getD]
      exact leadS_same ops ms k j (by omega)
    · exact leadS_same ops ms k j (by omega)
set_option maxRecDepth 100000 in
set_option maxHeartbeats 1000000 in
theorem lead_any (cs : List (Int × Int)) (ca : Option Addr) (cc cb co : Nat) (hca : cs = [] ∨ ca = some ⟨cb, co, none⟩) (hn : cs.length ≤ 9000000000000) (g : Nat) (ms : List Int) (hml : ms.length = cs.length) (cap : Nat) (hcap : cs.length ≤ cap) (hgc : cb ≠ g)
    (hm : ∀ k (h : k < cs.length), cs[k].1 = 52 → 0 ≤ ms.getD k 0 ∧ ms.getD k 0 < cs.length)
    (W : World) (hc : ∀ j (h : j < cs.length), W.cell? ⟨cb, co + j * 2, none⟩ = some (.int .i64 cs[j].1) ∧ W.cell? ⟨cb, co + j * 2 + 1, none⟩ = some (.int .i64 cs[j].2)) (h : NumBlk g ms W) :
    Calls Try.prog 30 #[.slice ca cs.length cc, .slice (some ⟨g, 0, none⟩) cs.length cap] W fun e w' => e = .returned (.tuple #[]) ∧ NumBlk g (leadS (opsI cs) ms cs.length) w' ∧ Only g W w' := by
  obtain ⟨n, hn'⟩ : ∃ n, n = cs.length := ⟨_, rfl⟩
  have HN := hid6 hn'
  rw [← hn'] at hn hcap hml ⊢
  have HC := hid6 hc
  have HM := hid6 hm
  have H0 := hid6 h
  have HL := hid6 hml
  clear hc hm h hml hn'
  go_enter Try.func30, Try.ntmps30
  go_wp2_with fail
  go_loopw [8] (fun i wr => ∃ k : Nat, k ≤ n ∧ i = .int .i64 k ∧ Hid (NumBlk g (leadS (opsI cs) ms k) wr ∧ Only g W wr)) (fun i _ => n - (intOf i).toNat)
  case atStart => exact ⟨0, Nat.zero_le _, rfl, hid6 ⟨H0.out, Only.refl _ _⟩⟩
  case round =>
    obtain ⟨k, hk, rfl, HR⟩ := hrel
    by_cases hlt : k < n
    · have kl : k < cs.length := by have := HN.out; omega
      have hcw : wr.cell? ⟨cb, co + k * 2, none⟩ = some (.int .i64 cs[k].1) ∧ wr.cell? ⟨cb, co + k * 2 + 1, none⟩ = some (.int .i64 cs[k].2) := by
        obtain ⟨c0, c1⟩ := HC.out k kl
        exact ⟨(HR.out.2.cell c0 (by simpa using hgc)), (HR.out.2.cell c1 (by simpa using hgc))⟩
      obtain ⟨c0, c1⟩ := hcw
      have ha : ca = some ⟨cb, co, none⟩ := by
        rcases hca with h | h
        · rw [h] at kl; cases kl
        · exact h
      subst ha
      have hop : (opsI cs)[k]? = some cs[k].1 := by simp [opsI, kl]
      have HM2 := hid6 (HM.out k kl)
      obtain ⟨nn, hnn⟩ : ∃ nn, nn = cs[k].1 := ⟨_, rfl⟩
      obtain ⟨na, hna⟩ : ∃ na, na = cs[k].2 := ⟨_, rfl⟩
      rw [← hnn] at c0 hop HM2
      rw [← hna] at c1
      clear hnn hna hca
      by_cases h52 : nn = 52
      · subst h52
        obtain ⟨ml, mu⟩ := HM2.out rfl
        obtain ⟨R, hR⟩ : ∃ R, R = leadS (opsI cs) ms k := ⟨_, rfl⟩
        have hB := HR.out.1
        rw [← hR] at hB
        have hRl : R.length = n := by rw [hR, leadS_len]; exact HL.out
        have hRk : R.getD k 0 = ms.getD k 0 := by rw [hR]; exact leadS_same _ _ _ _ (Nat.le_refl _)
        obtain ⟨q, hq⟩ : ∃ q : Nat, R.getD k 0 = (q : Int) := ⟨(ms.getD k 0).toNat, by rw [hRk]; omega⟩
        have hqn : q < n := by rw [hRk] at hq; have := HN.out; omega
        have HE : Hid (leadS (opsI cs) ms (k + 1) = R.set k (R.getD q 0)) := hid6 (by simp only [leadS]; rw [if_pos hop, ← hR, hq]; rfl)
        obtain ⟨p0, z0⟩ := hB.at k (by omega)
        obtain ⟨p1, z1⟩ := hB.at q (by omega)
        have e0 : R[k]'(by omega) = (q : Int) := by rw [← hq, List.getD_eq_getElem?_getD, List.getElem?_eq_getElem (by omega)]; rfl
        have e1 : R[q]'(by omega) = R.getD q 0 := by rw [List.getD_eq_getElem?_getD, List.getElem?_eq_getElem (by omega)]; rfl
        rw [e0] at p0
        rw [e1] at p1
        generalize R.getD q 0 = y at p1 HE
        have H2 := hid6 (hB.set k y)
        have hgl := blk_lt hB
        clear hB e0 e1 hq hRk hR hRl mu ml hop
        go_wp2_with fail
        refine ⟨⟨k + 1, by omega, by simp, hid6 ⟨?_, ?_⟩⟩, ?_⟩
        · rw [HE.out]; exact H2.out.alloc _
        · exact HR.out.2.trans ((Only.set g k _ _).trans (Only.below ((Below.refl _ _).alloc (Nat.le_refl _) _)))
        · simp [intOf]; omega
      · have HE : Hid (leadS (opsI cs) ms (k + 1) = leadS (opsI cs) ms k) := hid6 (by simp only [leadS]; rw [if_neg (by rw [hop]; simpa using h52)])
        clear hop HM2
        go_wp2_with fail
        refine ⟨⟨k + 1, by omega, by simp, hid6 ⟨?_, ?_⟩⟩, ?_⟩
        · rw [HE.out]; exact HR.out.1.alloc _
        · exact HR.out.2.trans (Only.below ((Below.refl _ _).alloc (Nat.le_refl _) _))
        · simp [intOf]; omega
    · have : k = n := by omega
      subst this
      go_wp2_with fail
      go_end0
      exact ⟨rfl, HR.out.1, HR.out.2⟩
end Go.Proofs.Ytodagpmcmjleaaa
