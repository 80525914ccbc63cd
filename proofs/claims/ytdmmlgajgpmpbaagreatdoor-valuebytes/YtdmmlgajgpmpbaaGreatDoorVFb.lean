/- The document's BytesOf, Put. -/
import Derived.Test.YtdmmlgajgpmpbaaGreatDoorVYp
import Derived.Test.YtdmmlgajgpmpbaaGreatDoorRW
import Derived.Test.YtdmmlgajgpmpbaaGreatDoorPA
namespace Go.Proofs.YtdmmlgajgpmpbaaGreatDoor
open Go.RowKit
attribute [local go_sem high] eq_val eq_val0
set_option maxRecDepth 100000 in
set_option maxHeartbeats 2000000 in
theorem bytesOf_any (a : Option Addr) (n c : Nat) (L : List Val) (hn : L.length = n) (w : World) (hV : Vs w a L) (hn' : n ≤ 255) (hR : L.all Val.right = true) : Calls Tryz.prog 23 #[.slice a n c] w fun e w' => ∃ v, e = .returned v ∧ OwnB w' w.heap.size v (encL L) ∧ Below w.heap.size w w' := by
  have hO0 : OwnB (w.alloc (.cells #[.int .u8 (n : Int)] 5)) w.heap.size (.slice (some ⟨w.heap.size, 0, none⟩) 1 1) [UInt8.ofNat n] := by
    have e : [UInt8.ofNat n].map bv = [.int .u8 (n : Int)] := by
      simp only [List.map_cons, List.map_nil, bv, UInt8.toNat_ofNat']
      rw [Nat.mod_eq_of_lt (by omega)]
    unfold OwnB
    rw [e]
    exact World.ownsRow_lit w #[.int .u8 (n : Int)] 1 (Nat.le_refl _) (by decide) rfl
  go_enter Tryz.func23, Tryz.ntmps23
  go_wp2
  go_loopw [3, 4] (fun v i wr => ∃ (k : Nat) (v' : Value), k ≤ n ∧ i = .int .i64 k ∧ v = v' ∧ OwnB wr w.heap.size v' ([UInt8.ofNat n] ++ (L.take k).flatMap encV) ∧ Below w.heap.size w wr) (fun _ i _ => n - (intOf i).toNat)
  case atStart => exact ⟨0, _, Nat.zero_le _, rfl, rfl, by simpa using hO0, (Below.refl _ w).alloc (Nat.le_refl _) _⟩
  case round =>
    obtain ⟨k, v', hk, rfl, rfl, hO, hb⟩ := hrel
    by_cases hlt : k < n
    · rcases hV with h0 | ⟨b, off, hao, hc⟩
      · subst h0; simp at hn; omega
      subst hao
      obtain ⟨q0, q1, q2⟩ := hc k (by omega)
      have hlen : ((L.take k).flatMap encV).length ≤ 259 * 255 := by
        have := flat_len (L.take k) (by rw [List.all_eq_true] at hR ⊢; exact fun x hx => hR x (List.mem_of_mem_take hx))
        simp only [List.length_take] at this
        omega
      have HS : Hid ((L.take (k + 1)).flatMap encV = (L.take k).flatMap encV ++ encV (L[k]'(by omega))) := hidV (by rw [List.take_add_one, List.getElem?_eq_getElem (by omega)]; show List.flatMap encV (L.take k ++ [L[k]]) = _; rw [List.flatMap_append, List.flatMap_cons, List.flatMap_nil, List.append_nil])
      have hx := List.all_eq_true.1 hR L[k] (by simp)
      generalize L[k]'(by omega) = x at q0 q1 q2 HS hx
      have hlen2 : ([UInt8.ofNat n] ++ (L.take k).flatMap encV).length ≤ 70000 := by simp only [List.length_append, List.length_singleton]; omega
      generalize hys : [UInt8.ofNat n] ++ (L.take k).flatMap encV = ys at hO hlen2
      clear hlen
      have c0 := cell_below q0 hb
      have c1 := cell_below q1 hb
      have c2 := cell_below q2 hb
      rcases right_cases hx with ⟨ht, hb0⟩ | ⟨ht, hn0, hb0⟩ | ⟨ht, hn0, hb0⟩
      · obtain ⟨xt, xn, xb⟩ := x
        simp only at ht hb0 q0 q1 q2
        subst ht hb0
        have HE : Hid ([UInt8.ofNat n] ++ (L.take (k + 1)).flatMap encV = ys ++ [1] ++ be64 xn) := hidV (by rw [HS.out, ← List.append_assoc, hys]; simp [encV])
        clear HS hys hx hc
        go_wp2_with (at_builtin; go_loud (refine wpList_app _ rfl _ _ _ _ rfl elem_u8 w.heap.size _ _ rfl (Own.alloc hO _) _ rfl [bv 1] (src_one _ Tryz.underlying23 _ _ _ (by rfl) rfl _) (by simp only [List.length_map, List.length_singleton]; unfold maxLen; omega) (by simp only [List.length_map, List.length_singleton]; omega) (by have := hb.size; simp; omega) ?_))
        intro v1 w1 ho1 hs1
        rw [show [bv 1] = [(1 : UInt8)].map bv from rfl, ← List.map_append] at ho1
        have hb1 : Below w.heap.size w w1 := (hb.alloc hb.size _).trans (hs1.below (Nat.le_trans hb.size (by simp)) (fun k h => (hO.lt k h).1))
        have d0 := cell_below q0 hb1
        have d1 := cell_below q1 hb1
        have d2 := cell_below q2 hb1
        clear hO
        go_wp2_with (first | (go_at_call 47; refine (refNumber_any xn _).mono ?_; rintro e w2 ⟨v2, rfl, hO2, hb2⟩; obtain ⟨ao, cap, rfl, _, _, hB2, _⟩ := Own.bs hO2; have hO1' := Own.below ho1 hb2; have hbw2 := hb1.trans (hb2.mono hb1.size)) | (at_builtin; refine wpList_app _ rfl _ _ _ _ rfl elem_u8 w.heap.size _ _ rfl hO1' _ rfl ((be64 xn).map bv) (src_bs _ Tryz.underlying23 hB2 _) (by simp only [List.length_map, List.length_append, List.length_singleton, be64_length]; unfold maxLen; omega) (by simp only [List.length_map, List.length_append, List.length_singleton, be64_length]; omega) hbw2.size ?_))
        intro v3 w3 ho3 hs3
        replace ho3 : OwnB w3 w.heap.size v3 (ys ++ [1] ++ be64 xn) := by simpa [OwnB] using ho3
        go_wp2
        have hb3 : Below w.heap.size w w3 := hbw2.trans (hs3.below hbw2.size (fun k h => (ho1.lt k h).1))
        exact ⟨⟨k + 1, v3, by omega, by go_num, rfl, by rw [HE.out]; exact ho3, hb3⟩, by simp [intOf]; omega⟩
      · obtain ⟨xt, xn, xb⟩ := x
        simp only at ht hn0 hb0 q0 q1 q2
        subst ht hn0
        have HE : Hid ([UInt8.ofNat n] ++ (L.take (k + 1)).flatMap encV = ys ++ [2] ++ text xb) := hidV (by rw [HS.out, ← List.append_assoc, hys]; simp [encV])
        clear HS hys hx hc
        go_wp2_with (at_builtin; go_loud (refine wpList_app _ rfl _ _ _ _ rfl elem_u8 w.heap.size _ _ rfl (Own.alloc hO _) _ rfl [bv 2] (src_one _ Tryz.underlying23 _ _ _ (by rfl) rfl _) (by simp only [List.length_map, List.length_singleton]; unfold maxLen; omega) (by simp only [List.length_map, List.length_singleton]; omega) (by have := hb.size; simp; omega) ?_))
        intro v1 w1 ho1 hs1
        rw [show [bv 2] = [(2 : UInt8)].map bv from rfl, ← List.map_append] at ho1
        have hb1 : Below w.heap.size w w1 := (hb.alloc hb.size _).trans (hs1.below (Nat.le_trans hb.size (by simp)) (fun k h => (hO.lt k h).1))
        have d0 := cell_below q0 hb1
        have d1 := cell_below q1 hb1
        have d2 := cell_below q2 hb1
        clear hO
        go_wp2_with (first | (go_at_call 48; refine (rtextOne xb _ (by omega)).mono ?_; rintro e w2 ⟨v2, rfl, hO2, hb2⟩; obtain ⟨ao, cap, rfl, _, _, hB2, _⟩ := Own.bs hO2; have hO1' := Own.below ho1 hb2; have hbw2 := hb1.trans (hb2.mono hb1.size)) | (at_builtin; refine wpList_app _ rfl _ _ _ _ rfl elem_u8 w.heap.size _ _ rfl hO1' _ rfl ((text xb).map bv) (src_bs _ Tryz.underlying23 hB2 _) (by simp only [List.length_map, List.length_append, List.length_singleton, text_length]; unfold maxLen; omega) (by simp only [List.length_map, List.length_append, List.length_singleton, text_length]; omega) hbw2.size ?_))
        intro v3 w3 ho3 hs3
        replace ho3 : OwnB w3 w.heap.size v3 (ys ++ [2] ++ text xb) := by simpa [OwnB] using ho3
        go_wp2
        have hb3 : Below w.heap.size w w3 := hbw2.trans (hs3.below hbw2.size (fun k h => (ho1.lt k h).1))
        exact ⟨⟨k + 1, v3, by omega, by go_num, rfl, by rw [HE.out]; exact ho3, hb3⟩, by simp [intOf]; omega⟩
      · obtain ⟨xt, xn, xb⟩ := x
        simp only at ht hn0 hb0 q0 q1 q2
        subst ht hb0
        obtain ⟨cc, rfl, hcc⟩ : ∃ cc : UInt8, xn = (cc.toNat : Int) ∧ UInt8.ofNat xn.toNat = cc := by
          rcases hn0 with rfl | rfl
          · exact ⟨0, rfl, rfl⟩
          · exact ⟨1, rfl, rfl⟩
        have hwrap : IntKind.u8.wrap (cc.toNat : Int) = (cc.toNat : Int) := by have := cc.toNat_lt; rw [IntKind.wrap_u8]; omega
        have hmod : (cc.toNat : Int) % 256 = (cc.toNat : Int) := by have := cc.toNat_lt; omega
        have HE : Hid ([UInt8.ofNat n] ++ (L.take (k + 1)).flatMap encV = ys ++ [3] ++ [cc]) := hidV (by rw [HS.out, ← List.append_assoc, hys]; simp [encV])
        clear HS hys hx hc
        go_wp2_with (at_builtin; go_loud (refine wpList_app _ rfl _ _ _ _ rfl elem_u8 w.heap.size _ _ rfl (Own.alloc hO _) _ rfl [bv 3] (src_one _ Tryz.underlying23 _ _ _ (by rfl) rfl _) (by simp only [List.length_map, List.length_singleton]; unfold maxLen; omega) (by simp only [List.length_map, List.length_singleton]; omega) (by have := hb.size; simp; omega) ?_))
        intro v1 w1 ho1 hs1
        rw [show [bv 3] = [(3 : UInt8)].map bv from rfl, ← List.map_append] at ho1
        have hb1 : Below w.heap.size w w1 := (hb.alloc hb.size _).trans (hs1.below (Nat.le_trans hb.size (by simp)) (fun k h => (hO.lt k h).1))
        have d0 := cell_below q0 hb1
        have d1 := cell_below q1 hb1
        have d2 := cell_below q2 hb1
        clear hO
        go_wp2_with (first | (at_builtin; refine wpList_app _ rfl _ _ _ _ rfl elem_u8 w.heap.size _ _ rfl (Own.alloc ho1 _) _ rfl ([cc].map bv) (src_one _ Tryz.underlying23 _ _ _ (by first | rfl | (show Value.int .u8 _ = Value.int .u8 _; rw [hmod])) rfl _) (by simp only [List.length_map, List.length_append, List.length_singleton]; unfold maxLen; omega) (by simp only [List.length_map, List.length_append, List.length_singleton]; omega) (by have := hb1.size; simp; omega) ?_))
        intro v3 w3 ho3 hs3
        replace ho3 : OwnB w3 w.heap.size v3 (ys ++ [3] ++ [cc]) := by simpa [OwnB] using ho3
        go_wp2
        have hb3 : Below w.heap.size w w3 := (hb1.alloc hb1.size _).trans (hs3.below (by have := hb1.size; simp; omega) (fun k h => (ho1.lt k h).1))
        exact ⟨⟨k + 1, v3, by omega, by go_num, rfl, by rw [HE.out]; exact ho3, hb3⟩, by simp [intOf]; omega⟩
    · obtain rfl : k = n := by omega
      rw [List.take_of_length_le (by omega), show [UInt8.ofNat k] ++ L.flatMap encV = encL L by rw [encL, hn]] at hO
      go_wp2
      go_ret
      exact ⟨_, rfl, hO, hb⟩
set_option maxRecDepth 100000 in
set_option maxHeartbeats 1000000 in
/-- How the document's Put ends. -/
theorem rput_any (a : Option Addr) (n c : Nat) (L : List Val) (hn : L.length = n) (w : World) (hV : Vs w a L) (hF : Fair L) (hl : n ≤ 140737488351232) : Calls Tryz.prog 8 #[.slice a n c] w fun e w' => Below w.heap.size w w' ∧
    ((255 < L.length ∧ e = .returned (.tuple #[.slice none 0 0, .int .i64 6])) ∨ (L.length ≤ 255 ∧ L.all Val.right = false ∧ e = .returned (.tuple #[.slice none 0 0, .int .i64 1])) ∨
     (L.length ≤ 255 ∧ L.all Val.right = true ∧ ∃ ao cap, e = .returned (.tuple #[.slice ao (encL L).length cap, .int .i64 0]) ∧ Bs w' ao (encL L))) := by
  by_cases h1 : 255 < n
  · go_enter Tryz.func8, Tryz.ntmps8
    go_wp2
    go_ret2
    exact ⟨Below.refl _ _, .inl ⟨by omega, rfl⟩⟩
  · have hA := rall_any a n c L hn w hV hF hl
    cases hR : L.all Val.right with
    | false =>
      rw [hR] at hA
      go_enter Tryz.func8, Tryz.ntmps8
      go_wp2_with (go_at_call 22; refine hA.mono ?_; rintro e w1 ⟨rfl, hb1⟩)
      go_ret2
      exact ⟨hb1, .inr (.inl ⟨by omega, trivial, rfl⟩)⟩
    | true =>
      rw [hR] at hA
      have hB := fun W hW => bytesOf_any a n c L hn W hW (by omega) hR
      go_enter Tryz.func8, Tryz.ntmps8
      go_wp2_with (first | (go_at_call 22; refine hA.mono ?_; rintro e w1 ⟨rfl, hb1⟩) | (go_at_call 23; refine (hB _ (hV.keep hb1)).mono ?_; rintro e w2 ⟨v, rfl, hO, hb2⟩; obtain ⟨ao, cap, rfl, _, _, hBs, _⟩ := Own.bs hO))
      go_ret2
      exact ⟨hb1.trans (hb2.mono hb1.size), .inr (.inr ⟨by omega, trivial, _, _, rfl, hBs⟩)⟩
end Go.Proofs.YtdmmlgajgpmpbaaGreatDoor
