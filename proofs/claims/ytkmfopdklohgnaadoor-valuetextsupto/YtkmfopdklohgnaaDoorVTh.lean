/- The document's Hex. -/
import Derived.Test.YtkmfopdklohgnaaDoorVTd
import Derived.Deep.RegionWith
namespace Go.Proofs.YtkmfopdklohgnaaDoor
open Go.RowKit
def hexD : List UInt8 := [48, 49, 50, 51, 52, 53, 54, 55, 56, 57, 97, 98, 99, 100, 101, 102]
def hex2 (c : UInt8) : List UInt8 := [hexD.getD (c.toNat / 16) 0, hexD.getD (c.toNat % 16) 0]
theorem src_newB {P : Program} {tx e' : TypeId} (hk : P.underlying tx = some (.slice e')) (B : Nat) (x y : Value) (t : TypeId) (W : World) (hb : W.heap[B]? = some (.cells #[x] t (0, 0))) (h : x = y) (h1 : y.oneCell' = true) (c : Nat) : Src P 1 tx (.slice (some ⟨B, 0, none⟩) 1 c) [y].length [y] W := by
  subst h
  exact Src.ofSlice _ hk _ 1 c [x] rfl (World.news_of_block hb) (by intro u hu; simp at hu; subst hu; exact h1)
theorem src_new2 {P : Program} {tx e' : TypeId} (hk : P.underlying tx = some (.slice e')) (B : Nat) (x y x' y' : Value) (t : TypeId) (W : World) (hb : W.heap[B]? = some (.cells #[x, y] t (0, 0))) (h : x = x') (h' : y = y') (h1 : x'.oneCell' = true) (h2 : y'.oneCell' = true) (c : Nat) : Src P 1 tx (.slice (some ⟨B, 0, none⟩) 2 c) [x', y'].length [x', y'] W := by
  subst h h'
  exact Src.ofSlice _ hk _ 2 c [x, y] rfl (World.news_of_block hb) (by intro u hu; simp at hu; rcases hu with rfl | rfl <;> assumption)
set_option maxRecDepth 100000 in
set_option maxHeartbeats 1000000 in
theorem rhex_any (s : List UInt8) (w : World) (hs : s.length ≤ 1048576) : Calls Tryd.prog 36 #[.string ⟨s.toArray⟩] w fun e w' => e = .returned (.string ⟨(s.flatMap hex2).toArray⟩) ∧ Below w.heap.size w w' := by
  go_enter Tryd.func36, Tryd.ntmps36
  go_wp2
  go_loopw [4, 5] (fun v i wr => ∃ (k : Nat) (v' : Value), k ≤ s.length ∧ i = .int .i64 k ∧ v = v' ∧ OwnB wr w.heap.size v' ((s.take k).flatMap hex2) ∧ Below w.heap.size w wr) (fun _ i _ => s.length - (intOf i).toNat)
  case atStart => exact ⟨0, _, Nat.zero_le _, rfl, rfl, by simp only [List.take_zero, List.flatMap_nil]; exact Own.nil _ _ _, Below.refl _ _⟩
  case round =>
    obtain ⟨k, v', hk, rfl, rfl, hO, hb⟩ := hrel
    by_cases hlt : k < s.length
    · have HE : Hid ((s.take (k + 1)).flatMap hex2 = (s.take k).flatMap hex2 ++ hex2 s[k]) := hidV (by rw [List.take_succ_eq_append_getElem hlt, List.flatMap_append, List.flatMap_cons, List.flatMap_nil, List.append_nil])
      have hyl : ((s.take k).flatMap hex2).length ≤ 2097152 := by
        have : ∀ l : List UInt8, (l.flatMap hex2).length = 2 * l.length := fun l => by
          induction l with
          | nil => rfl
          | cons a l ih => rw [List.flatMap_cons, List.length_append, ih]; simp [hex2]; omega
        rw [this, List.length_take]
        omega
      generalize (s.take k).flatMap hex2 = ys at *
      have e0 : (⟨s.toArray⟩ : ByteArray)[k]'(by show k < s.toArray.size; simpa using hlt) = s[k] := by simp [ByteArray.getElem_eq_getElem_data]
      generalize s[k] = c at e0 HE
      have hc := c.toNat_lt
      obtain ⟨m1, hm1⟩ : ∃ m1, m1 = c.toNat / 16 := ⟨_, rfl⟩
      obtain ⟨m2, hm2⟩ : ∃ m2, m2 = c.toNat % 16 := ⟨_, rfl⟩
      have hd1 : m1 < 16 := by omega
      have hd2 : m2 < 16 := by omega
      have hi1 : (m1 : Int) < 16 := by omega
      have hi2 : (m2 : Int) < 16 := by omega
      have hw1 : IntKind.u8.wrap ((c.toNat : Int) / 16) = (m1 : Int) := by rw [IntKind.wrap_u8']; omega
      have hw2 : (c.toNat : Int).tmod 16 = (m2 : Int) := by rw [Int.tmod_eq_emod_of_nonneg (by omega)]; omega
      have e1 := digit_at2 m1 hd1
      have e2 := digit_at2 m2 hd2
      generalize hg1 : ([(48 : UInt8), 49, 50, 51, 52, 53, 54, 55, 56, 57, 97, 98, 99, 100, 101, 102].getD m1 0) = x1 at e1
      generalize hg2 : ([(48 : UInt8), 49, 50, 51, 52, 53, 54, 55, 56, 57, 97, 98, 99, 100, 101, 102].getD m2 0) = x2 at e2
      have HX : Hid (hex2 c = [x1, x2]) := hidV (by rw [← hg1, ← hg2, hm1, hm2]; rfl)
      clear hg1 hg2 hm1 hm2
      go_wp2
      go_region_law ((refine step_app _ (by rfl) _ _ _ _ (by rfl) elem_u8 w.heap.size u4 _ (by rfl) (by exact (Own.alloc hO _)) _ (by rfl) [bv x1, bv x2] (src_new2 Tryd.underlying59 wr.heap.size _ _ _ _ _ _ (by exact heap_alloc_new wr _) rfl rfl rfl rfl _) (by simp only [List.length_map, List.length_cons, List.length_nil]; unfold maxLen; omega) (by simp only [List.length_map, List.length_cons, List.length_nil]; omega) (by have := hb.size; simp; omega) ?_; intro v2 w2 hO2 hs2))
      all_goals
        replace hO2 : OwnB w2 w.heap.size v2 ((s.take (k + 1)).flatMap hex2) := by
          rw [HE.out, HX.out]
          simpa [OwnB] using hO2
        have hb2 : Below w.heap.size w w2 := ((hb.alloc hb.size _).drew).trans (hs2.below (Nat.le_trans hb.size (by simp)) (fun k h => (hO.lt k h).1))
        clear hs2 hO hb e0 HE HX
        go_wp2
        go_roundw
        case rel => exact ⟨k + 1, _, by omega, by go_num, rfl, hO2, hb2⟩
        case measure => simp [intOf]; omega
    · have hke : s.take k = s := List.take_of_length_le (by omega)
      rw [hke] at hO
      obtain ⟨hx, hhx⟩ : ∃ hx, hx = s.flatMap hex2 := ⟨_, rfl⟩
      rw [← hhx] at hO
      have HH : Hid (s.flatMap hex2 = hx) := hidV hhx.symm
      clear hhx
      obtain ⟨ao, cap, rfl, _, _, hB, _⟩ := Own.bs hO
      have hst := run_str hB cap
      go_wp2
      go_ret
      exact ⟨by rw [HH.out]; rfl, hb⟩
end Go.Proofs.YtkmfopdklohgnaaDoor
