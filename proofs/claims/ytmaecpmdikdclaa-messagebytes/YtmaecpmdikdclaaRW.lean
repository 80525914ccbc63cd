/- What ref's Writer does. -/
import Derived.Test.YtmaecpmdikdclaaWW
import Derived.Test.YtmaecpmdikdclaaWR
import Derived.Test.YtmaecpmdikdclaaNums
import Derived.Deep.RegionLaw
namespace Go.Proofs.Ytmaecpmdikdclaa
open Go.RowKit

set_option maxHeartbeats 2000000 in
theorem rtextOne (s : List UInt8) (w : World) (hs : s.length ≤ 65535) :
    Calls Try.prog 69 #[.string ⟨s.toArray⟩] w fun e w' => ∃ v', e = .returned v' ∧ OwnB w' w.heap.size v' (text s) ∧ Below w.heap.size w w' := by
  have hO1 : OwnB (w.alloc (.cells #[.int .u8 ((s.length : Int) / 256), .int .u8 ((s.length : Int) % 256)] 5)) w.heap.size (.slice (some ⟨w.heap.size, 0, none⟩) 2 2) (be s.length 2) := by
    have e : (be s.length 2).map bv = [.int .u8 ((s.length : Int) / 256), .int .u8 ((s.length : Int) % 256)] := by
      simp only [be, List.range, List.range.loop, List.map_cons, List.map_nil, bv, UInt8.toNat_ofNat']
      simp
      omega
    unfold OwnB
    rw [e]
    exact World.ownsRow_lit w #[.int .u8 ((s.length : Int) / 256), .int .u8 ((s.length : Int) % 256)] 2 (Nat.le_refl _) (by decide) rfl
  have hba : Below w.heap.size w (w.alloc (.cells #[.int .u8 ((s.length : Int) / 256), .int .u8 ((s.length : Int) % 256)] 5)) := (Below.refl _ _).alloc (Nat.le_refl _) _
  have hl2 := be_length s.length 2
  have HT : Hid (text s = be s.length 2 ++ s) := hid rfl
  generalize be s.length 2 = x2 at hO1 hl2 HT
  go_enter Try.func69, Try.ntmps69
  go_wp2_with (at_builtin; go_loud (refine wpList_app _ rfl (.tmp 11) (.tmp 12) _ _ rfl elem_u8 w.heap.size _ _ rfl hO1 _ rfl (s.map bv) (src_str _ Try.underlying9 s) (by simp only [List.length_map, hl2]; unfold maxLen; omega) (by simp only [List.length_map, hl2]; omega) (by simp) ?_))
  intro v1 w1 ho1 hs1
  rw [← List.map_append, ← HT.out] at ho1
  have hb1 : Below w.heap.size w w1 := hba.trans (hs1.below (by simp) (fun k h => (hO1.lt k h).1))
  clear hs1 hO1 hba
  go_wp2
  go_ret
  exact ⟨_, rfl, ho1, hb1⟩

end Go.Proofs.Ytmaecpmdikdclaa
