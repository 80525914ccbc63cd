/- What the document's own Reader does where it reads: Byte, Int and Text. -/
import Derived.Test.YtkfohihemmjkbaaGreatDoorRF
namespace Go.Proofs.YtkfohihemmjkbaaGreatDoor
open Go.RowKit

theorem RfS.cellAt {w : World} {q g : Nat} {bs : List UInt8} {k : Nat} {err : Int} (H : RfS w q g bs k err) (h0 : 0 < bs.length) : ∃ off cap, (w.cell? ⟨q, 0, none⟩ = some (.slice (some ⟨g, off, none⟩) bs.length cap) ∧ bs.length ≤ cap ∧ cap ≤ maxLen) ∧ ∀ j (h : j < bs.length), w.cell? ⟨g, off + j, none⟩ = some (.int .u8 (bs[j].toNat : Int)) := by
  obtain ⟨⟨ao, cap, hE, hB, hc, hm⟩, hg, hk, hx⟩ := H
  rcases hB with hB | ⟨off, rfl, hB⟩
  · subst hB; simp at h0
  · exact ⟨off, cap, ⟨(cells3 hE).1.1, hc, hm⟩, hB⟩
theorem RfS.at1 {w : World} {q g : Nat} {bs : List UInt8} {k : Nat} {err : Int} (H : RfS w q g bs k err) : w.cell? ⟨q, 1, none⟩ = some (.int .i64 (k : Int)) ∧ w.frozen? ⟨q, 1, none⟩ = false ∧ w.cell? ⟨q, 2, none⟩ = some (.int .i64 err) := by
  obtain ⟨⟨ao, cap, hE, hB, hc, hm⟩, hg, hk, hx⟩ := H
  exact ⟨(cells3 hE).1.2.1, (cells3 hE).2.2.1, (cells3 hE).1.2.2⟩

set_option maxHeartbeats 400000 in
theorem fbyte_ok (q g : Nat) (bs : List UInt8) (k : Nat) (w : World) (H : RfS w q g bs k 0) (hl : k < bs.length) :
    Calls Tryz.prog 54 #[.pointer (some ⟨q, 0, none⟩)] w fun e w' => e = .returned (.int .i64 ((bs[k]'hl).toNat : Nat)) ∧ RfS w' q g bs (k + 1) 0 ∧ Chg w w' (fun i => i = q) := by
  go_enter Tryz.func54, Tryz.ntmps54
  go_wp2_with fail
  refine (has_ok q g bs k _ w H (by omega)).mono ?_
  rintro e w1 ⟨rfl, hc1⟩
  have H1 := H.chg hc1 id id
  have hx := H1.mx
  obtain ⟨c1, f1, c2⟩ := H1.at1
  have HR := H1.setAt (k' := k + 1) (N := (k : Int) + 1) (by omega) (by omega)
  have hc2 : Chg w (w1.setCell ⟨q, 1, none⟩ (.int .i64 ((k : Int) + 1))) (fun i => i = q) := (hc1.mono (fun _ _ e => e.elim)).trans (Chg.setCell w1 ⟨q, 1, none⟩ _) (fun _ _ e => e)
  have hb := (bs[k]'hl).toNat_lt
  clear H1 H
  go_wp2
  generalize w1.setCell ⟨q, 1, none⟩ (.int .i64 ((k : Int) + 1)) = w2 at HR hc2
  clear c1 f1 c2 hc1
  obtain ⟨off, cap, ⟨c0, hlc, hcm⟩, hcell⟩ := HR.cellAt (by omega)
  obtain ⟨c1, f1, c2⟩ := HR.at1
  rw [show (((k + 1 : Nat) : Int)) = (k : Int) + 1 by omega] at c1
  have ck := hcell k hl
  generalize hxx : (bs[k]'hl).toNat = x at ck hb
  have HX : Hid ((bs[k]'hl).toNat = x) := hxx
  clear hcell hxx
  go_quiet (fail)
  go_wp2
  go_ret
  exact ⟨ret_int (by rw [HX.out]), HR.chg (Chg.drewN _ _ (fun _ => False)) id id, hc2.trans (Chg.drewN _ _ _) (fun _ _ e => e)⟩
set_option maxHeartbeats 1000000 in
theorem fint_ok (q g : Nat) (bs : List UInt8) (k : Nat) (w : World) (H : RfS w q g bs k 0) (hl : k + 8 ≤ bs.length) :
    Calls Tryz.prog 53 #[.pointer (some ⟨q, 0, none⟩)] w fun e w' => e = .returned (.int .i64 (toInt (num ((bs.drop k).take 8)))) ∧ RfS w' q g bs (k + 8) 0 ∧ Chg w w' (fun i => i = q) := by
  go_enter Tryz.func53, Tryz.ntmps53
  go_wp2_with fail
  refine (has_ok q g bs k _ w H (by omega)).mono ?_
  rintro e w1 ⟨rfl, hc1⟩
  have H1 := H.chg hc1 id id
  have hx := H1.mx
  clear H
  go_wp2
  go_loopw [3, 4] (fun n i wr => ∃ j : Nat, j ≤ 8 ∧ i = .int .i64 j ∧ n = .int .u64 (num ((bs.drop k).take j) : Nat) ∧ RfS wr q g bs k 0 ∧ Chg w wr (fun _ => False)) (fun _ i _ => 8 - (intOf i).toNat)
  case atStart => exact ⟨0, Nat.zero_le _, rfl, rfl, H1, hc1⟩
  case round =>
    clear H1 hc1
    obtain ⟨j, hj, rfl, rfl, H1, hc1⟩ := hrel
    by_cases hlt : j < 8
    · obtain ⟨off, cap, ⟨c0, hlc, hcm⟩, hcell⟩ := H1.cellAt (by omega)
      obtain ⟨c1, f1, c2⟩ := H1.at1
      have ck := hcell (k + j) (by omega)
      have hS := num_snoc (bs.drop k) j (by rw [List.length_drop]; omega)
      rw [List.getElem_drop] at hS
      have hN := num_lt ((bs.drop k).take j)
      generalize num ((bs.drop k).take j) = n at hS hN
      unfold numStep at hS
      have hb := (bs[k + j]'(by omega)).toNat_lt
      generalize (bs[k + j]'(by omega)).toNat = x at ck hb hS
      have HS : Hid (num ((bs.drop k).take (j + 1)) = (n * 256 + x) % 18446744073709551616) := hS
      clear hcell hS
      go_wp2
      go_quiet (fail)
      go_wp2
      go_roundw
      case rel => exact ⟨j + 1, by omega, by go_num, by rw [HS.out, IntKind.wrap_u64, IntKind.wrap_u64]; congr 1; omega, H1.chg (Chg.drewN _ _ (fun _ => False)) id id, hc1.trans (Chg.drewN _ _ _) (fun _ _ e => e)⟩
      case measure => simp [intOf]; omega
    · obtain rfl : j = 8 := by omega
      have HR := H1.setAt (k' := k + 8) (N := (k : Int) + 8) (by omega) (by omega)
      obtain ⟨c1, f1, c2⟩ := H1.at1
      have hN := num_lt ((bs.drop k).take 8)
      have HN : Hid (wrap64 ((num ((bs.drop k).take 8) : Nat) : Int) = toInt (num ((bs.drop k).take 8))) := hid (wrap_toInt _ (num_lt _))
      have hc2 : ∀ v, Chg w (wr.setCell ⟨q, 1, none⟩ v) (fun i => i = q) := fun v => (hc1.mono (fun _ _ e => e.elim)).trans (Chg.setCell wr ⟨q, 1, none⟩ _) (fun _ _ e => e)
      go_wp2
      go_ret
      exact ⟨ret_int HN.out, HR, hc2 _⟩

theorem tl_at (bs : List UInt8) (k : Nat) (h : k + 2 ≤ bs.length) : tlOf (bs.drop k) = 256 * (bs[k]'(by omega)).toNat + (bs[k + 1]'(by omega)).toNat := by
  unfold tlOf
  rw [if_neg (by rw [List.length_drop]; omega), List.drop_eq_getElem_cons (by omega), List.drop_eq_getElem_cons (by omega), List.take_succ_cons, List.take_succ_cons, List.take_zero, num_two]
  omega
end Go.Proofs.YtkfohihemmjkbaaGreatDoor
