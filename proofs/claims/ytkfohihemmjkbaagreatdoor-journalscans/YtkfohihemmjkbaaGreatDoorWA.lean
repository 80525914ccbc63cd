/- What wire's smallest functions do: number reads bytes as a number, appendNumber writes one behind a slice, fresh copies a slice. -/
import Derived.Test.YtkfohihemmjkbaaGreatDoorProg
import Derived.Test.YtkfohihemmjkbaaGreatDoorPlain
import Derived.WalkLawsBesides
import Derived.Laws.CopyOwn
namespace Go.Proofs.YtkfohihemmjkbaaGreatDoor
open Go.RowKit

theorem ret_int {k : IntKind} {a b : Int} (h : a = b) : Ending.returned (.int k a) = .returned (.int k b) := by rw [h]

set_option maxHeartbeats 400000 in
theorem number_any (ao : Option Addr) (len cap : Nat) (bs : List UInt8) (w : World) (hl : bs.length = len) (hm : len ≤ 140737488355328) (hb : Bs w ao bs) :
    Calls Tryz.prog 93 #[.slice ao len cap] w fun e w' => e = .returned (.int .u64 (num bs : Nat)) ∧ w' = w := by
  go_enter Tryz.func93, Tryz.ntmps93
  go_wp2
  go_loop [3, 8] (fun n i => ∃ k : Nat, k ≤ len ∧ i = .int .i64 k ∧ n = .int .u64 (num (bs.take k) : Nat)) (fun _ i => len - (intOf i).toNat)
  case atStart => exact ⟨0, Nat.zero_le _, rfl, rfl⟩
  case round =>
    obtain ⟨k, hk, rfl, rfl⟩ := hrel
    by_cases hlt : k < len
    · rcases hb with hb | ⟨b, off, hao, hc⟩
      · subst hb; simp at hl; omega
      · subst hao
        have hck := hc k (by omega)
        have HS : Hid (num (bs.take (k + 1)) = numStep (num (bs.take k)) (bs[k]'(by omega))) := num_snoc bs k (by omega)
        have HB := numStep_bits (num (bs.take k)) (bs[k]'(by omega))
        clear hc
        go_wp2
        go_round
        case rel => exact ⟨k + 1, by omega, by go_num, by rw [HS.out]⟩
        case measure => simp [intOf]; omega
    · have HE : Hid (bs.take k = bs) := List.take_of_length_le (by omega)
      go_wp2
      go_ret
      exact ⟨ret_int (by rw [HE.out]), rfl⟩

theorem elem_u8 : Elem Tryz.prog 29 5 1 := by
  refine ⟨Tryz.underlying29, ?_⟩
  obtain ⟨i0, hi, hz0, hz1, hz2⟩ := info_parts (show (Tryz.prog.info? 5).map (fun i => (i.zero, i.size, i.bytes)) = some (some (.int .u8 0), 1, 1) by kernel_rfl)
  exact ⟨i0, _, hi, hz0, hz1, hz2, rfl⟩

/-- Owned bytes. -/
def OwnB (w : World) (base : Nat) (v : Value) (bs : List UInt8) : Prop := Own w base 5 v (bs.map bv)

set_option maxHeartbeats 400000 in
theorem appendNumber_any (base n size : Nat) (v : Value) (bs : List UInt8) (w : World) (hown : OwnB w base v bs) (hs : size ≤ 8)
    (hroom : bs.length + size ≤ 140737488355328) (hbase : base ≤ w.heap.size) :
    Calls Tryz.prog 108 #[v, .int .u64 n, .int .i64 size] w fun e w' => ∃ v', e = .returned v' ∧ OwnB w' base v' (bs ++ be n size) ∧ Step w v w' v' := by
  go_enter Tryz.func108, Tryz.ntmps108
  go_wp2
  go_loopw [0, 7] (fun u i wr => ∃ k : Nat, k ≤ size ∧ i = .int .i64 ((size : Int) - 1 - k) ∧ OwnB wr base u (bs ++ (be n size).take k) ∧ Step w v wr u) (fun _ i _ => (intOf i + 1).toNat)
  case atStart => exact ⟨0, Nat.zero_le _, by go_num, by simpa using hown, Step.refl _ _⟩
  case round =>
    obtain ⟨k, hk, rfl, ho, hst⟩ := hrel
    by_cases hlt : k < size
    · have hsz := hst.size
      have hl : (bs ++ (be n size).take k).length = bs.length + k := by simp [be_length]; omega
      generalize hxs : bs ++ (be n size).take k = xs at ho hl
      have Hxs : Hid (bs ++ (be n size).take k = xs) := hxs
      clear hxs
      go_wp2_with (at_builtin; refine wpList_app _ rfl _ _ _ _ rfl elem_u8 base _ _ rfl (ho.alloc _) _ rfl [bv (UInt8.ofNat (n / 256 ^ (size - 1 - k)))] (src_one _ Tryz.underlying29 _ _ _ (by rw [be_byte]) rfl _) ?c1 ?c2 ?c3 ?_)
      case c1 => simp only [List.length_map, List.length_singleton, hl]; unfold maxLen; omega
      case c2 => simp only [List.length_map, List.length_singleton, hl]; omega
      case c3 => simp; omega
      intro v1 w1 ho1 hst1
      have R1 : OwnB w1 base v1 (bs ++ List.take (k + 1) (be n size)) := by
        unfold OwnB
        rw [be_take n size k hlt, ← List.append_assoc, Hxs.out, List.map_append]
        exact ho1
      have R2 : Step w v w1 v1 := (hst.alloc _).trans hst1
      clear ho1 hst1 ho hst
      go_wp2
      go_roundw
      case rel => exact ⟨k + 1, by omega, by go_num, R1, R2⟩
      case measure => simp [intOf]; omega
    · have HE : Hid ((be n size).take k = be n size) := List.take_of_length_le (by rw [be_length]; omega)
      go_wp2
      go_ret
      rw [HE.out] at ho
      exact ⟨_, rfl, ho, hst⟩

theorem appendNumber_at (base n size : Nat) (N S : Int) (v : Value) (bs : List UInt8) (w : World) (hN : N = (n : Int)) (hS : S = (size : Int)) (hown : OwnB w base v bs) (hs : size ≤ 8)
    (hroom : bs.length + size ≤ 140737488355328) (hbase : base ≤ w.heap.size) :
    Calls Tryz.prog 108 #[v, .int .u64 N, .int .i64 S] w fun e w' => ∃ v', e = .returned v' ∧ OwnB w' base v' (bs ++ be n size) ∧ Step w v w' v' := by
  subst hN; subst hS
  exact appendNumber_any base n size v bs w hown hs hroom hbase

set_option maxHeartbeats 400000 in
theorem fresh_any (ao : Option Addr) (len cap : Nat) (bs : List UInt8) (w : World) (hl : bs.length = len) (hm : len ≤ 140737488355328) (hb : Bs w ao bs) :
    Calls Tryz.prog 92 #[.slice ao len cap] w fun e w' => e = .returned (.slice (some ⟨w.heap.size, 0, none⟩) len len) ∧ OwnB w' w.heap.size (.slice (some ⟨w.heap.size, 0, none⟩) len len) bs ∧ Below w.heap.size w w' := by
  obtain ⟨i0, hi, hz0, hz1, hz2⟩ := info_parts (show (Tryz.prog.info? 5).map (fun i => (i.zero, i.size, i.bytes)) = some (some (.int .u8 0), 1, 1) by kernel_rfl)
  go_enter Tryz.func92, Tryz.ntmps92
  go_wp2_with (first | (at_make; refine wpList_make_full _ rfl _ _ 29 rfl w.heap.size 5 i0 (.int .u8 0) 1 Tryz.underlying29 hi hz0 hz1 _ _ _ _ len rfl rfl rfl rfl ?b1 ?b2 ?b3 ?_))
  case b1 => rw [hz2]; omega
  case b2 => unfold maxLen; omega
  case b3 => exact Nat.le_refl _
  intro w1 ho1 hg1
  obtain ⟨cur, hcur, hh⟩ : ∃ cur : List Value, cur.length = len ∧ w1.heap[w.heap.size]? = some (.cells cur.toArray 5 (0, 0)) := by
    rcases ho1.2 with ⟨h, _⟩ | ⟨g, cap', cur, h, _, hg, _, _, hsz, _⟩
    · cases h
    · cases h
      exact ⟨cur.toList, by simpa using hsz, by simpa using hg⟩
  have hb1 : Below w.heap.size w w1 := (Below.refl _ w).grown hg1 (Nat.le_refl _) (fun k h => by cases h)
  have HB : Bs w1 ao bs := by
    rcases hb with h | ⟨b, off, h, hc⟩
    · exact .inl h
    · refine .inr ⟨b, off, h, fun j hj => ?_⟩
      have := hc j hj
      rw [hb1.cell (p := ⟨b, off + j, none⟩) (World.block_lt_of_cell? _ _ this)]
      exact this
  obtain ⟨cs, hcs⟩ : ∃ cs, cs = bs.map bv := ⟨_, rfl⟩
  have hcl : cs.length = len := by rw [hcs, List.length_map, hl]
  have HD : Hid (0 < cs.length → ∃ ad, ao = some ad ∧ ∀ j v, cs[j]? = some v → w1.cell? (ad.add j) = some v) := by
    intro h0
    rcases HB with h | ⟨b, off, h, hc⟩
    · subst h; simp [hcs] at h0
    · refine ⟨⟨b, off, none⟩, h, fun j u hu => ?_⟩
      have hadd : (⟨b, off, none⟩ : Addr).add j = ⟨b, off + j, none⟩ := by unfold Addr.add; split <;> simp_all
      rw [hadd]
      rw [hcs, List.getElem?_map] at hu
      obtain ⟨x, hx, rfl⟩ := Option.map_eq_some_iff.1 hu
      obtain ⟨hj, rfl⟩ := List.getElem?_eq_some_iff.1 hx
      exact hc j hj
  have HO : Hid (∀ u ∈ cs, u.oneCell' = true) := by intro u hu; rw [hcs] at hu; obtain ⟨_, _, rfl⟩ := List.mem_map.1 hu; rfl
  have HC : Hid (cs = bs.map bv) := hcs
  clear ho1 hg1 hb HB hcs
  go_wp2_with (refine wpList_copy_splice rfl (.tmp 7) (.tmp 8) 29 29 rfl 5 Tryz.underlying29 (by rw [hi]; simp [hz1]) _ _ _ _ _ _ rfl rfl w.heap.size 0 cur 5 hh cs (by simp [hcl]) (fun h => ⟨rfl, HD.out h⟩) (by simp [hcl, hcur]) HO.out w.heap.size w hb1 (Nat.le_refl _) ?_)
  intro w2 HG hb2
  go_wp2
  go_ret
  have e : splice cur 0 cs = cs := by
    have : cur.drop cs.length = [] := List.drop_eq_nil_of_le (by omega)
    simp [splice, this]
  have hg2 := HG.out
  rw [e] at hg2
  refine ⟨rfl, ?_, hb2⟩
  unfold OwnB Own
  rw [← HC.out, hcl]
  exact ⟨by omega, .inr ⟨w.heap.size, len, _, rfl, Nat.le_refl _, hg2, Nat.le_refl _, by unfold maxLen; omega, by simp [hcl], List.take_of_length_le (by simp [hcl])⟩⟩

end Go.Proofs.YtkfohihemmjkbaaGreatDoor
