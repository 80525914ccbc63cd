/- value.Put. -/
import Derived.Test.YtdmmlgajgpmpbaaGreatDoorVY
namespace Go.Proofs.YtdmmlgajgpmpbaaGreatDoor
open Go.RowKit
attribute [local go_sem high] eq_val eq_val0
/-- The bytes of values that may be. -/
def encL (L : List Val) : List UInt8 := [UInt8.ofNat L.length] ++ L.flatMap encV
theorem flat_len (L : List Val) (h : L.all Val.right = true) : (L.flatMap encV).length ≤ 259 * L.length := by
  induction L with
  | nil => simp
  | cons x r ih =>
    simp only [List.all_cons, Bool.and_eq_true] at h
    have h1 := ih h.2
    have h2 : (encV x).length ≤ 259 := enc_len x (by rcases right_cases h.1 with ⟨_, e⟩ | ⟨_, _, e⟩ | ⟨_, _, e⟩ <;> simp [e])
    simp only [List.flatMap_cons, List.length_append, List.length_cons]
    omega
/-- The Writer that was made at w: at the two blocks behind w. -/
structure MineV (w wr : World) (vr : Value) (bs : List UInt8) : Prop where
  H : WrE wr (w.heap.size + 1) w.heap.size vr 0
  hO : OwnB wr (w.heap.size + 2) vr bs
  hb : Below w.heap.size w wr
  hz : w.heap.size + 2 ≤ wr.heap.size
theorem MineV.step {w wr w2 : World} {vr v2 : Value} {bs bs2 : List UInt8} (M : MineV w wr vr bs) (H : WrE w2 (w.heap.size + 1) w.heap.size v2 0) (hO : OwnB w2 (w.heap.size + 2) v2 bs2) (hs : WStep w.heap.size wr vr w2 v2) : MineV w w2 v2 bs2 :=
  ⟨H, hO, M.hb.trans (hs.below (by have := M.hz; omega) (Nat.le_refl _) (fun k e => by have := (M.hO.lt k e).1; omega)), Nat.le_trans M.hz hs.1.size⟩
/-- How Put ends. -/
def PutEnd (L : List Val) (w : World) (e : Ending) (w' : World) : Prop := Below w.heap.size w w' ∧
  ((255 < L.length ∧ e = .returned (.tuple #[.slice none 0 0, .int .i64 6])) ∨ (L.length ≤ 255 ∧ L.all Val.right = false ∧ e = .returned (.tuple #[.slice none 0 0, .int .i64 1])) ∨
   (L.length ≤ 255 ∧ L.all Val.right = true ∧ ∃ a, e = .returned (.tuple #[.slice (some a) (encL L).length (encL L).length, .int .i64 0]) ∧ Bs w' (some a) (encL L)))
set_option maxRecDepth 100000 in
set_option maxHeartbeats 1000000 in
theorem put_any (a : Option Addr) (n c : Nat) (L : List Val) (hn : L.length = n) (w : World) (hV : Vs w a L) (hF : Fair L) (hl : n ≤ 140737488351232) : Calls Tryz.prog 7 #[.slice a n c] w (PutEnd L w) := by
  by_cases h1 : 255 < n
  · go_enter Tryz.func7, Tryz.ntmps7
    go_wp2
    go_ret2
    exact ⟨Below.refl _ _, .inl ⟨by omega, rfl⟩⟩
  · have hA := allRight_any a n c L hn w hV hF hl
    cases hR : L.all Val.right with
    | false =>
      rw [hR] at hA
      go_enter Tryz.func7, Tryz.ntmps7
      go_wp2_with (go_at_call 17; refine hA.mono ?_; rintro e w1 ⟨rfl, hb1⟩)
      go_ret2
      exact ⟨hb1, .inr (.inl ⟨by omega, hR, rfl⟩)⟩
    | true =>
      rw [hR] at hA
      have hBy : ∀ (W w1 : World) (v : Value) (B : Nat), W.heap.size = B → MineV w1 W v [] → Calls Tryz.prog 19 #[.pointer (some ⟨w1.heap.size + 1, 0, none⟩), .slice (some ⟨B, 0, none⟩) 1 1] (W.alloc (.cells #[.int .i64 (n : Int)] 3)) (Wrote (w1.heap.size + 1) w1.heap.size (w1.heap.size + 2) v ([] ++ [UInt8.ofNat n]) W (.int .i64 0)) := fun W w1 v B hB M => by
        have e : (n : Int) = ((UInt8.ofNat n).toNat : Nat) := by rw [UInt8.toNat_ofNat']; omega
        rw [e]
        exact byte_one _ _ _ _ v [] _ W hB M.H M.hO M.hz (by simp)
      go_enter Tryz.func7, Tryz.ntmps7
      go_wp2_with (first | (go_at_call 17; refine hA.mono ?_; rintro e w1 ⟨rfl, hb1⟩) | (go_at_call 18; refine (newWriter_any w1).mono ?_; rintro e w2 ⟨rfl, hw2⟩; have M2 : MineV w1 w2 (.slice none 0 0) [] := (by rw [hw2]; exact ⟨newWriter_wr w1, Own.nil _ _ _, ((Below.refl _ _).alloc (Nat.le_refl _) _).alloc (by simp) _, by simp⟩); clear hw2) | (go_at_call 19; refine (hBy w2 w1 _ _ rfl M2).mono ?_; rintro e w3 ⟨v3, rfl, H3, hO3, hs3⟩; have M3 := M2.step H3 hO3 hs3; clear hs3 H3 hO3 M2 hBy))
      rw [List.nil_append] at M3
      have hV1 := hV.keep hb1
      clear hV hA
      go_loopw [21] (fun i wr => ∃ (k : Nat) (vr : Value), k ≤ n ∧ i = .int .i64 k ∧ MineV w1 wr vr ([UInt8.ofNat n] ++ (L.take k).flatMap encV)) (fun i _ => n - (intOf i).toNat)
      case atStart => exact ⟨0, v3, Nat.zero_le _, rfl, by simpa using M3⟩
      case round =>
        obtain ⟨k, vr, hk, rfl, M⟩ := hrel
        by_cases hlt : k < n
        · rcases hV1.keep M.hb with h0 | ⟨b, off, hao, hc⟩
          · subst h0; simp at hn; omega
          subst hao
          obtain ⟨c0, c1, c2⟩ := hc k (by omega)
          have hlen : ((L.take k).flatMap encV).length ≤ 259 * 255 := by
            have := flat_len (L.take k) (by rw [List.all_eq_true] at hR ⊢; exact fun x hx => hR x (List.mem_of_mem_take hx))
            simp only [List.length_take] at this
            omega
          have HS : Hid ((L.take (k + 1)).flatMap encV = (L.take k).flatMap encV ++ encV (L[k]'(by omega))) := hidV (by rw [List.take_add_one, List.getElem?_eq_getElem (by omega)]; show List.flatMap encV (L.take k ++ [L[k]]) = _; rw [List.flatMap_append, List.flatMap_cons, List.flatMap_nil, List.append_nil])
          have hx := List.all_eq_true.1 hR L[k] (by simp)
          generalize L[k]'(by omega) = x at c0 c1 c2 HS hx
          generalize (L.take k).flatMap encV = xs at M HS hlen
          have hP := fun (W : World) (hc : Chg wr W (fun _ => False)) (hz : wr.heap.size ≤ W.heap.size) => putOne_any (w1.heap.size + 1) w1.heap.size (w1.heap.size + 2) vr ([UInt8.ofNat n] ++ xs) x W (M.H.chg hc id id) (Own.chg M.hO hc (fun _ _ => id)) (Nat.le_trans M.hz hz) hx (by simp; omega)
          obtain ⟨xt, xn, xb⟩ := x
          simp only [Val.v] at hP c0 c1 c2
          clear hc
          go_wp2_with (go_at_call 20; refine (hP (wr.alloc (Val.box ⟨xt, xn, xb⟩)) (Chg.alloc _ _ _) (by simp)).mono ?_; rintro e w4 ⟨v4, rfl, H4, hO4, hs4⟩; have M4 := M.step H4 hO4 ((WStep.alloc _ _ _ _).trans hs4))
          exact ⟨⟨k + 1, v4, by omega, by go_num, by rw [HS.out, ← List.append_assoc]; exact M4⟩, by simp [intOf]; omega⟩
        · obtain rfl : k = n := by omega
          have htk : L.take k = L := List.take_of_length_le (by omega)
          rw [htk] at M
          have hE : [UInt8.ofNat k] ++ L.flatMap encV = encL L := by rw [encL, hn]
          rw [hE] at M
          have hlen : (encL L).length ≤ 1048576 := by
            have := flat_len L hR
            simp only [encL, List.length_append, List.length_cons, List.length_nil]
            omega
          have fin : ∀ w5 a, Bs w5 (some a) (encL L) → Below wr.heap.size wr w5 → PutEnd L w (.returned (.tuple #[.slice (some a) (encL L).length (encL L).length, .int .i64 0])) w5 := fun w5 a h5 hb5 => ⟨hb1.trans ((M.hb.trans (hb5.mono M.hb.size)).mono hb1.size), .inr (.inr ⟨by omega, hR, a, rfl, h5⟩)⟩
          clear hE htk
          generalize encL L = E at M hlen fin
          go_wp2_with (go_at_call 21; refine (bytes_any _ _ _ vr E wr M.H M.hO hlen).mono ?_; rintro e w5 ⟨rfl, hO5, hb5⟩)
          obtain ⟨ao, cap, hsl, _, _, hBs, _⟩ := Own.bs hO5
          cases hsl
          go_ret2
          exact fin _ _ hBs hb5
end Go.Proofs.YtdmmlgajgpmpbaaGreatDoor
