/- The check 'knows' that every law of layer 1 ends with answers true. -/
import Derived.Test.YtmaecpmdikdclaaWA
import Derived.Test.YtmaecpmdikdclaaWG
namespace Go.Proofs.Ytmaecpmdikdclaa
open Go.RowKit

theorem run_str {w : World} {ao : Option Addr} {bs : List UInt8} (h : Bs w ao bs) (cap : Nat) : (convert 25 9 (.slice ao bs.length cap)).run Try.prog w = .ok (.string ⟨bs.toArray⟩) w := by
  have nums : ∀ l : List UInt8, strOfNums (l.map fun b => (b.toNat : Int)) = ⟨l.toArray⟩ := fun l => by
    unfold strOfNums
    rw [List.map_map]
    congr 2
    conv => rhs; rw [← List.map_id l]
    apply List.map_congr_left
    intro b _
    simp
  rcases h with rfl | ⟨b, off, rfl, hc⟩
  · cases ao with
    | none => exact run_convert_bytes_nil w 25 5 Try.underlying25 Try.underlying5 0 cap 9 Try.underlying9
    | some a =>
      rw [run_convert_bytes_string w 25 9 5 _ _ cap Try.underlying25 Try.underlying5 Try.underlying9]
      exact (run_bytesToString w a 0 cap [] (by simp [loadCells, loadCellsFrom])).trans rfl
  · rw [run_convert_bytes_arg w 25 5 Try.underlying25 Try.underlying5 b off bs.length cap (bs.map fun b => (b.toNat : Int)) (by simp) (fun i hi => by rw [hc i hi]; simp [List.getD, hi]) 9 Try.underlying9, nums]

theorem Own.chg {w w' : World} {base : Nat} {e : TypeId} {v : Value} {xs : List Value} {S : Nat → Prop} (h : Own w base e v xs) (k : Chg w w' S) (hv : ∀ g, v.ownBlock = some g → ¬ S g) : Own w' base e v xs := by
  refine ⟨h.1, ?_⟩
  rcases h.2 with h2 | ⟨g, cap, cur, rfl, hg, hh, r⟩
  · exact .inl h2
  · exact .inr ⟨g, cap, cur, rfl, hg, by rw [k.block g (lt_of_block hh) (hv g rfl)]; exact hh, r⟩
theorem WStep.below {h : Nat} {w w' : World} {v v' : Value} (s : WStep h w v w' v') {B : Nat} (hB : B ≤ w.heap.size) (hh : B ≤ h) (hv : ∀ k, v.ownBlock = some k → B ≤ k) : Below B w w' :=
  s.1.below hB (fun i hi => by rcases hi with e | e
                               · omega
                               · exact hv i e)

/-- A call with one int, one text. -/
theorem int_one (p h base B : Nat) (v : Value) (bs : List UInt8) (x : Int) (w : World) (hB : w.heap.size = B) (H : WrE w p h v 0) (hO : OwnB w base v bs) (hbase : base ≤ w.heap.size) (hroom : bs.length + 8 ≤ 1048576) :
    Calls Try.prog 38 #[.pointer (some ⟨p, 0, none⟩), .slice (some ⟨B, 0, none⟩) 1 1] (w.alloc (.cells #[.int .i64 x] 3)) fun e w' => ∃ v', e = .returned (.int .i64 0) ∧ WrE w' p h v' 0 ∧ OwnB w' base v' (bs ++ be64 x) ∧ WStep h w v w' v' := by
  subst hB
  have hnew : ¬ WSet h v w.heap.size := fun e => by
    rcases e with e | e
    · have := lt_of_block H.hh; omega
    · have := (hO.lt _ e).2; omega
  refine (int_ok p h base v bs (some ⟨w.heap.size, 0, none⟩) 1 1 [x] _ (H.chg (Chg.alloc w _ (fun _ => False)) id id) (Own.alloc hO _) (by simp; omega) (by omega) rfl (fun w' hc => .inr ⟨w.heap.size, 0, rfl, fun j hj => ?_⟩) (by omega)).mono ?_
  · obtain rfl : j = 0 := by simp at hj; omega
    exact hc.cell (new_cell w _ _ 0 _ rfl) hnew
  · rintro e w' ⟨v', rfl, H', hO', hs⟩
    refine ⟨v', rfl, H', ?_, (WStep.alloc h w v _).trans hs⟩
    have e : ints [x] = be64 x := by simp [ints]
    rw [← e]; exact hO'
theorem text_one (p h base B : Nat) (v : Value) (bs : List UInt8) (x : List UInt8) (w : World) (hB : w.heap.size = B) (H : WrE w p h v 0) (hO : OwnB w base v bs) (hbase : base ≤ w.heap.size) (hx : x.length ≤ 65535) (hroom : bs.length + (2 + x.length) ≤ 1048576) :
    Calls Try.prog 84 #[.pointer (some ⟨p, 0, none⟩), .slice (some ⟨B, 0, none⟩) 1 1] (w.alloc (.cells #[.string ⟨x.toArray⟩] 9)) fun e w' => ∃ v', e = .returned (.int .i64 0) ∧ WrE w' p h v' 0 ∧ OwnB w' base v' (bs ++ text x) ∧ WStep h w v w' v' := by
  subst hB
  have hnew : ¬ WSet h v w.heap.size := fun e => by
    rcases e with e | e
    · have := lt_of_block H.hh; omega
    · have := (hO.lt _ e).2; omega
  have e : texts [x] = text x := by simp [texts]
  refine (text_ok p h base v bs (some ⟨w.heap.size, 0, none⟩) 1 1 [x] _ (H.chg (Chg.alloc w _ (fun _ => False)) id id) (Own.alloc hO _) (by simp; omega) (by omega) rfl (by decide) (fun w' hc => .inr ⟨w.heap.size, 0, rfl, fun j hj => ?_⟩) (fun j hj => ?_) (by rw [e, text_length]; omega)).mono ?_
  · obtain rfl : j = 0 := by simp at hj; omega
    exact hc.cell (new_cell w _ _ 0 _ rfl) hnew
  · obtain rfl : j = 0 := by simp at hj; omega
    exact hx
  · rintro e' w' ⟨v', rfl, H', hO', hs⟩
    refine ⟨v', rfl, H', ?_, (WStep.alloc h w v _).trans hs⟩
    rw [← e]; exact hO'

theorem firstOf_empty : firstOf (frameOf []) = some [] := by decide +kernel
theorem framesOf_empty : framesOf (frameOf []) = ([[]], 8) := by
  rw [framesOf_some firstOf_empty]
  have e : (frameOf []).drop (8 + ([] : List UInt8).length) = [] := List.drop_eq_nil_of_le (by simp [frameOf, be_length])
  rw [e, framesOf_none (by rfl)]
  rfl

end Go.Proofs.Ytmaecpmdikdclaa
