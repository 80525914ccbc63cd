/- The law WireRot, walked. -/
import Derived.Test.YtjnmgnnaefiegabDoorFA
import Derived.Test.YtjnmgnnaefiegabDoorWH
namespace Go.Proofs.YtjnmgnnaefiegabDoor
open Go.RowKit

theorem own_block {w : World} {base n c : Nat} {ao : Option Addr} {bs : List UInt8} (hO : OwnB w base (.slice ao n c) bs) (h0 : 0 < bs.length) : ∃ g cur, ao = some ⟨g, 0, none⟩ ∧ w.heap[g]? = some (.cells cur 5 (0, 0)) ∧ ∀ j (h : j < bs.length), cur[j]? = some (bv bs[j]) := by
  rcases hO.2 with ⟨h, he⟩ | ⟨g, cap', cur, h, _, hg, hle, _, _, ht⟩
  · rw [List.length_map] at he; omega
  · injection h with h1 h2 h3
    subst h1
    refine ⟨g, cur, rfl, hg, fun j hj => ?_⟩
    have h2 : (bs.map bv)[j]? = some (bv bs[j]) := by rw [List.getElem?_map, List.getElem?_eq_getElem hj]; rfl
    rw [← ht, List.getElem?_take] at h2
    split at h2
    · simpa using h2
    · cases h2
/-- A byte of one's own slice becomes another. -/
theorem own_set {w : World} {g : Nat} {cur : Array Value} {bs : List UInt8} (hg : w.heap[g]? = some (.cells cur 5 (0, 0))) (hc : ∀ j (h : j < bs.length), cur[j]? = some (bv bs[j])) (k : Nat) (hk : k < bs.length) (y : UInt8) :
    Bs (w.setCell ⟨g, k, none⟩ (.int .u8 (y.toNat : Int))) (some ⟨g, 0, none⟩) (bs.set k y) := by
  have hlt := lt_of_block hg
  have h' : w.heap[g] = .cells cur 5 (0, 0) := by simpa [Array.getElem?_eq_getElem hlt] using hg
  have hk' : k < cur.size := (Array.getElem?_eq_some_iff.1 (hc k hk)).1
  have hN : (w.setCell ⟨g, k, none⟩ (.int .u8 (y.toNat : Int))).heap[g]? = some (.cells (cur.setIfInBounds k (.int .u8 (y.toNat : Int))) 5 (0, 0)) := by
    show (w.heap.modify g _)[g]? = _
    rw [Array.getElem?_eq_getElem (by simpa using hlt), Array.getElem_modify_self, h']
    rfl
  refine .inr ⟨g, 0, rfl, fun j hj => ?_⟩
  rw [List.length_set] at hj
  rw [Nat.zero_add, cell_of_row _ _ j _ _ (0, 0) hN]
  by_cases hjk : k = j
  · subst hjk
    simp [hk']
  · rw [Array.getElem?_setIfInBounds_ne hjk, hc j hj, List.getElem_set_ne hjk]

theorem turn_in (k : Int) (n : Nat) (h0 : 0 < n) : ∃ j : Nat, j < n ∧ (k.tmod n + n).tmod n = j ∧ -(n : Int) < k.tmod n ∧ k.tmod n < n := by
  have hn : (0 : Int) < n := by omega
  have h1 : k.tmod n < n := Int.tmod_lt_of_pos k hn
  have h2 : -(n : Int) < k.tmod n := Int.lt_tmod_of_pos k hn
  have h3 : (k.tmod n + n).tmod n = (k.tmod n + n) % n := Int.tmod_eq_emod_of_nonneg (by omega)
  have h4 := Int.emod_nonneg (k.tmod n + n) (by omega : (n : Int) ≠ 0)
  have h5 := Int.emod_lt_of_pos (k.tmod n + n) hn
  exact ⟨((k.tmod n + n) % n).toNat, by omega, by rw [h3]; omega, h2, h1⟩

theorem turn_len (k : Int) (len : Nat) (h : len ≤ 1048576) : ∃ j : Nat, j < 8 + len ∧ (wrap64 (k.tmod ((len : Int) + 8) + ((len : Int) + 8))).tmod ((len : Int) + 8) = j := by
  obtain ⟨j, hj, e, h1, h2⟩ := turn_in k (8 + len) (by omega)
  rw [show ((8 + len : Nat) : Int) = (len : Int) + 8 by omega] at e h1 h2
  refine ⟨j, hj, ?_⟩
  rw [← e]
  congr 1
  unfold wrap64
  omega

theorem xor_ne (a x : UInt8) (h : x ≠ 0) : a ^^^ x ≠ a := by
  intro e
  apply h
  have h2 : a ^^^ (a ^^^ x) = a ^^^ a := by rw [e]
  rwa [← UInt8.xor_assoc, UInt8.xor_self, UInt8.zero_xor] at h2
theorem bits_xor8 (a x : UInt8) : bits .xor .u8 (a.toNat : Int) (x.toNat : Int) = (((a ^^^ x).toNat : Nat) : Int) := by
  rw [u8_xor_nat _ _ a.toNat_lt x.toNat_lt, UInt8.toNat_xor]

set_option maxHeartbeats 2000000 in
theorem wireRot_walk (ao : Option Addr) (len cap : Nat) (bs : List UInt8) (k : Int) (x : UInt8) (w : World) (hl : bs.length = len) (hm : len ≤ 140737488351232) (hb : Bs w ao bs) (ht : Tab w) :
    Calls Tryd.prog 4 #[.slice ao len cap, .int .i64 k, .int .u8 (x.toNat : Int)] w fun e w' => e = .returned (.bool true) ∧ Below w.heap.size w w' := by
  go_enter Tryd.func4, Tryd.ntmps4
  by_cases hbig : 1048576 < len
  · go_wp2_with fail
    refine (frame_big ao len cap w hbig (by omega)).mono ?_
    rintro e w2 ⟨rfl, hw⟩
    subst hw
    go_wp2_with fail
    refine (num_any _ _).mono ?_
    rintro e w6 ⟨rfl, hw⟩
    subst hw
    go_wp2_with fail
    refine (knows_any _ ht).mono ?_
    rintro e w7 ⟨rfl, hb7⟩
    go_wp2
    go_ret
    exact ⟨rfl, hb7⟩
  go_wp2_with fail
  refine (frame_any ao len cap bs w hl (by omega) hb ht).mono ?_
  rintro e w2 ⟨v2, rfl, hO2, hb2⟩
  have hF := frameOf_length bs
  obtain ⟨ao2, cap2, hv2, hle2, hmx2, hB2, _, _⟩ := Own.bs hO2
  rw [hF, hl] at hv2
  subst hv2
  go_wp2_with fail
  refine (num_any _ _).mono ?_
  rintro e w6 ⟨rfl, hw⟩
  subst hw
  by_cases hx : x = 0
  · subst hx
    go_wp2_with fail
    refine (knows_any _ (ht.keep (below_keep hb2))).mono ?_
    rintro e w7 ⟨rfl, hb7⟩
    go_wp2
    go_ret
    exact ⟨rfl, hb2.trans (hb7.mono hb2.size)⟩
  have hx0 : ((x.toNat : Int) == 0) = false := by
    rw [beq_eq_false_iff_ne]
    intro e
    exact hx (UInt8.toNat_inj.1 (by simpa using e))
  obtain ⟨j, hj, ej⟩ := turn_len k len (by omega)
  obtain ⟨g, cur, rfl, hg, hcur⟩ := own_block hO2 (by omega)
  have hjF : j < (frameOf bs).length := by omega
  have hcell : w6.cell? ⟨g, j, none⟩ = some (bv (frameOf bs)[j]) := by rw [cell_of_row _ _ j _ _ (0, 0) hg]; exact hcur j hjF
  have hfroz : w6.frozen? ⟨g, j, none⟩ = false := by simp [World.frozen?, hg]
  have hrot : Hid _ := hid <| rot bs (by omega) j hjF _ (xor_ne _ x hx)
  have hset := own_set hg hcur j hjF ((frameOf bs)[j] ^^^ x)
  have hxor := bits_xor8 (frameOf bs)[j] x
  have hgb : w.heap.size ≤ g := (hO2.lt g rfl).1
  have hsl : ((frameOf bs).set j ((frameOf bs)[j] ^^^ x)).length = 8 + len := by rw [List.length_set]; omega
  generalize (frameOf bs).set j ((frameOf bs)[j] ^^^ x) = F' at hrot hset hsl
  generalize (frameOf bs)[j] ^^^ x = y at hset hxor
  generalize (frameOf bs)[j] = c at hcell hxor
  clear hcur hO2 hB2 hg
  have hb3 : ∀ v, Below w.heap.size w (w6.setCell ⟨g, j, none⟩ v) := fun v => hb2.trans ((Chg.setCell w6 ⟨g, j, none⟩ v).below hb2.size (fun i e => by rw [e]; exact hgb))
  go_wp2_with fail
  refine (frames_any (some ⟨g, 0, none⟩) (8 + len) cap2 F' _ hsl (by omega) (by omega) hmx2 hset (ht.keep (below_keep (hb3 _)))).mono ?_
  rintro e w7 ⟨v7, gs, rfl, hR7, hb7'⟩
  have hb7 : Below w.heap.size w w7 := (hb3 _).trans (hb7'.mono (hb3 _).size)
  obtain ⟨ao7, cap7, hv7, _⟩ := Own.form hR7.row
  have hz7 : (List.zipWith (fun g (b : List UInt8) => sl g b.length) gs (framesOf F').1).length = (framesOf F').1.length := by simp [hR7.len]
  rw [hz7] at hv7
  subst hv7
  have hr := hrot.out
  rw [hl] at hr
  generalize (framesOf F').1.length = a at hr
  generalize (framesOf F').2 = b at hr
  have hb : a = 1 → b ≠ 8 + len := fun h1 h2 => hr ⟨h1, h2⟩
  clear hr hrot hR7 hb3 hb7' hset hcell hxor hz7
  have ht7 := ht.keep (below_keep hb7)
  by_cases h1 : a = 1
  · subst h1
    have h2 : (((b : Nat) : Int) != ((len : Int) + 8)) = true := by rw [bne_iff_ne]; have := hb rfl; omega
    clear hb
    go_wp2_with (go_at_call 8; refine (knows_any _ ht7).mono ?_; rintro e w8 ⟨rfl, hb8⟩)
    go_ret
    exact ⟨rfl, hb7.trans (hb8.mono hb7.size)⟩
  · have h2 : (((a : Nat) : Int) != 1) = true := by rw [bne_iff_ne]; omega
    clear hb
    go_wp2_with (go_at_call 8; refine (knows_any _ ht7).mono ?_; rintro e w8 ⟨rfl, hb8⟩)
    go_ret
    exact ⟨rfl, hb7.trans (hb8.mono hb7.size)⟩
end Go.Proofs.YtjnmgnnaefiegabDoor
