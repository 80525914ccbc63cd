/- The law WireReads, walked. -/
import Derived.Test.YtjnmgnnaefiegaaDoorRH
import Derived.Test.YtjnmgnnaefiegaaDoorWR
import Derived.Test.YtjnmgnnaefiegaaDoorLSums
namespace Go.Proofs.YtjnmgnnaefiegaaDoor
open Go.RowKit

theorem drop_cut (bs : List UInt8) (k c : Nat) : (bs.drop k).drop c = bs.drop (k + c) := List.drop_drop

theorem rleft_drop (p h g : Nat) (bs : List UInt8) (k : Nat) (err : Int) (w : World) (H : RdS w p h g (bs.drop k) err) :
    Calls Tryd.prog 28 #[.pointer (some ⟨p, 0, none⟩)] w fun e w' => e = .returned (.int .i64 (bs.length - k : Nat)) ∧ w' = w := by
  have := rleft_any p h g _ err w H
  rw [List.length_drop] at this
  exact this

set_option maxHeartbeats 4000000 in
theorem wireReads_walk (ao al : Option Addr) (len cap nL capL : Nat) (bs : List UInt8) (ls : List Int) (w : World) (hl : bs.length = len) (hlL : ls.length = nL) (hm : len ≤ 140737488351232) (hmL : nL ≤ 140737488355328) (hb : Bs w ao bs) (hL : Is w al ls) (ht : Tab w) :
    Calls Tryd.prog 4 #[.slice ao len cap, .slice al nL capL] w fun e w' => e = .returned (.bool true) ∧ Below w.heap.size w w' := by
  go_enter Tryd.func4, Tryd.ntmps4
  go_wp2_with fail
  refine (lent_any ao len cap bs w hl hm hb).mono ?_
  rintro e w1 ⟨g, c, rfl, hO1, hb1⟩
  obtain ⟨hL1, hlc, hcm⟩ := lent_bs hl hO1
  have hgb : w.heap.size ≤ g ∧ g < w1.heap.size := hO1.lt g rfl
  have hX1 := Bytes8.of_own hl hO1
  go_wp2_with fail
  refine (rnew_any (some ⟨g, 0, none⟩) len c bs w1 hl (by omega) hL1).mono ?_
  rintro e w2 ⟨hh, rfl, hhz, hR2, hb2'⟩
  have hX2 : Bytes8 w2 g len := hX1.chg (Chg.of_below (S := fun _ => False) hb2') id
  have hb2 : Below w.heap.size w w2 := hb1.trans (hb2'.mono hb1.size)
  have hz1 := hb1.size
  have hz2 := hb2'.size
  have hph : hh + 1 < w2.heap.size := by obtain ⟨⟨a', c', hE, _⟩, _⟩ := hR2; exact lt_of_block hE.hp
  clear hO1 hL1 hX1 hb1 hb2'
  generalize w1.heap.size = gg at *
  go_wp2_with fail
  refine (fnew_any ao len cap bs w2 hl hm (hb.keep (below_keep hb2))).mono ?_
  rintro e w3 ⟨q, gq, rfl, hq1, hq2, hF3, hb3'⟩
  have hX3 : Bytes8 w3 g len := hX2.chg (Chg.of_below (S := fun _ => False) hb3') id
  have hR3 := hR2.chg (Chg.of_below (S := fun _ => False) hb3') id id id
  have hb3 : Below w.heap.size w w3 := hb2.trans (hb3'.mono hb2.size)
  clear hX2 hR2 hb2 hb3'
  go_wp2_with fail
  refine (knows_any w3 (ht.keep (below_keep hb3))).mono ?_
  rintro e w4 ⟨rfl, hb4'⟩
  have hX4 : Bytes8 w4 g len := hX3.chg (Chg.of_below (S := fun _ => False) hb4') id
  have hR4 := hR3.chg (Chg.of_below (S := fun _ => False) hb4') id id id
  have hF4 := hF3.chg (Chg.of_below (S := fun _ => False) hb4') id id
  have hb4 : Below w.heap.size w w4 := hb3.trans (hb4'.mono hb3.size)
  clear hX3 hR3 hb3 hb4' hF3
  go_wp2
  go_loopw [8] (fun i wr => ∃ k : Nat, k ≤ len ∧ i = .int .i64 k ∧ Bytes8 wr g len ∧ RdS wr (hh + 1) hh gg bs 0 ∧ RfS wr q gq bs 0 0 ∧ Below w.heap.size w wr) (fun i _ => len - (intOf i).toNat)
  case atStart => exact ⟨0, Nat.zero_le _, rfl, hX4, hR4, hF4, hb4⟩
  case round =>
    clear hX4 hR4 hF4 hb4
    obtain ⟨k, hk, rfl, hX, hR, hF, hbl⟩ := hrel
    by_cases hlt : k < len
    · obtain ⟨y, hy, cy, fy⟩ := hX.cell k hlt
      have hv : ((y : Int) + 1) % 256 = (((y + 1) % 256 : Nat) : Int) := by omega
      have hX' := hX.set k ((y + 1) % 256) _ hv (by omega)
      have hcs : ∀ v, Chg wr (wr.setCell ⟨g, k, none⟩ v) (fun i => i = g) := fun v => Chg.setCell wr ⟨g, k, none⟩ v
      have hR' := hR.chg (hcs (.int .u8 (((y : Int) + 1) % 256))) (by show ¬ (hh + 1 = g); omega) (by show ¬ (hh = g); omega) (by show ¬ (gg = g); omega)
      have hF' := hF.chg (hcs (.int .u8 (((y : Int) + 1) % 256))) (by show ¬ (q = g); omega) (by show ¬ (gq = g); omega)
      have hb' := hbl.trans ((hcs (.int .u8 (((y : Int) + 1) % 256))).below hbl.size (fun i e => by rw [e]; exact hgb.1))
      clear hX hR hF hbl hcs hv
      go_wp2
      go_roundw
      case rel => exact ⟨k + 1, by omega, by go_num, hX', hR', hF', hb'⟩
      case measure => simp [intOf]; omega
    · clear hX
      have hgb1 := hgb.1
      have hd : bs.drop 0 = bs := rfl
      rw [← hd] at hR
      clear hd
      go_wp2
      go_loopw [9] (fun i wr => ∃ (k at' : Nat) (err : Int), k ≤ nL ∧ i = .int .i64 k ∧ RdS wr (hh + 1) hh gg (bs.drop at') err ∧ RfS wr q gq bs at' err ∧ Below w.heap.size w wr) (fun i _ => nL - (intOf i).toNat)
      case atStart => exact ⟨0, 0, 0, Nat.zero_le _, rfl, hR, hF, hbl⟩
      case round =>
        clear hR hF hbl
        obtain ⟨j, at', err, hj, rfl, hR, hF, hbl⟩ := hrel
        by_cases hjt : j < nL
        · have hck : ∃ b off, al = some ⟨b, off, none⟩ ∧ b < w.heap.size ∧ wr.cell? ⟨b, off + j, none⟩ = some (.int .i64 (ls[j]'(by omega))) := by
            rcases hL with h0 | ⟨b, off, hao, hc⟩
            · subst h0; simp at hlL; omega
            · exact ⟨b, off, hao, World.block_lt_of_cell? _ _ (hc j (by omega)), below_keep hbl _ _ (hc j (by omega))⟩
          obtain ⟨b, off, rfl, hbw, hck⟩ := hck
          generalize ls[j]'(by omega) = N at hck
          by_cases hN0 : N = 0
          · subst hN0
            go_wp2_with fail
            refine (rbyte_all _ _ _ _ _ _ hR).mono ?_
            rintro e w5 ⟨rfl, hR5, hc5⟩
            have hF5 := hF.chg hc5 (by show ¬ (q = hh); omega) (by show ¬ (gq = hh); omega)
            go_wp2_with fail
            refine (fbyte_all _ _ _ _ _ _ hF5).mono ?_
            rintro e w6 ⟨rfl, hF6, hc6⟩
            have hR6 := hR5.chg hc6 (by show ¬ (hh + 1 = q); omega) (by show ¬ (hh = q); omega) (by show ¬ (gg = q); omega)
            have hb6 : Below w.heap.size w w6 := (hbl.trans (hc5.below hbl.size (fun i e => by omega))).trans (hc6.below (by have := hbl.size; have := hc5.size; omega) (fun i e => by omega))
            rw [drop_cut] at hR6
            generalize cutOf (bs.drop at') err 1 = ct at hR6 hF6
            generalize at' + ct = A at hR6 hF6
            generalize errOf (bs.drop at') err 1 = E at hR6 hF6
            generalize ansByte (bs.drop at') err = X
            clear hR hF hbl hR5 hF5 hc5 hc6 hck hL
            obtain ⟨_, _, cE⟩ := hF6.at1
            have n1 : (((bs.length - A : Nat) : Int) != ((bs.length - A : Nat) : Int)) = false := by simp
            have n2 : (E != E) = false := by simp
            have hQF : ∀ n, RfS (w6.drewN n) q gq bs A E := fun n => hF6.chg (Chg.drewN _ _ (fun _ => False)) id id
            have hQR : ∀ n, RdS (w6.drewN n) (hh + 1) hh gg (bs.drop A) E := fun n => hR6.chg (Chg.drewN _ _ (fun _ => False)) id id id
            have n3 : (doneOf (bs.drop A) E != doneOf (bs.drop A) E) = false := by simp
            have hbq : ∀ n, Below w.heap.size w (w6.drewN n) := fun n => below_drewN hb6 n
            go_wp2
            go_quiet (first | (go_at_call 28; exact Calls.quiet_of_same (rleft_drop _ _ _ _ _ _ _ (hQR _))) | (go_at_call 29; exact Calls.quiet_of (fleft_q _ _ _ _ _ _ (hQF _))) | (go_at_call 30; exact Calls.quiet_of_same (rerr_any _ _ _ _ _ _ (hQR _))) | (go_at_call 31; exact Calls.quiet_of_same (rdone_any _ _ _ _ _ _ (hQR _))) | (go_at_call 32; exact Calls.quiet_of (fdone_q _ _ _ _ _ _ (hQF _))) | (go_at_call 11; exact Calls.quiet_of_same (num_any _ _)))
            clear hR6 hF6 cE hb6 n1 n2 n3
            go_wp2
            go_roundw
            case rel => exact ⟨j + 1, A, E, by omega, by go_num, hQR _, hQF _, hbq _⟩
            case measure => simp [intOf]; omega
          · by_cases hN1 : N = 1
            · subst hN1
              go_wp2_with fail
              refine (rint_all _ _ _ _ _ _ hR).mono ?_
              rintro e w5 ⟨rfl, hR5, hc5⟩
              have hF5 := hF.chg hc5 (by show ¬ (q = hh); omega) (by show ¬ (gq = hh); omega)
              go_wp2_with fail
              refine (fint_all _ _ _ _ _ _ hF5).mono ?_
              rintro e w6 ⟨rfl, hF6, hc6⟩
              have hR6 := hR5.chg hc6 (by show ¬ (hh + 1 = q); omega) (by show ¬ (hh = q); omega) (by show ¬ (gg = q); omega)
              have hb6 : Below w.heap.size w w6 := (hbl.trans (hc5.below hbl.size (fun i e => by omega))).trans (hc6.below (by have := hbl.size; have := hc5.size; omega) (fun i e => by omega))
              rw [drop_cut] at hR6
              generalize cutOf (bs.drop at') err 8 = ct at hR6 hF6
              generalize at' + ct = A at hR6 hF6
              generalize errOf (bs.drop at') err 8 = E at hR6 hF6
              generalize ansInt (bs.drop at') err = X
              clear hR hF hbl hR5 hF5 hc5 hc6 hck hL
              obtain ⟨_, _, cE⟩ := hF6.at1
              have n1 : (((bs.length - A : Nat) : Int) != ((bs.length - A : Nat) : Int)) = false := by simp
              have n2 : (E != E) = false := by simp
              have hQF : ∀ n, RfS (w6.drewN n) q gq bs A E := fun n => hF6.chg (Chg.drewN _ _ (fun _ => False)) id id
              have hQR : ∀ n, RdS (w6.drewN n) (hh + 1) hh gg (bs.drop A) E := fun n => hR6.chg (Chg.drewN _ _ (fun _ => False)) id id id
              have n3 : (doneOf (bs.drop A) E != doneOf (bs.drop A) E) = false := by simp
              have hbq : ∀ n, Below w.heap.size w (w6.drewN n) := fun n => below_drewN hb6 n
              go_wp2
              go_quiet (first | (go_at_call 28; exact Calls.quiet_of_same (rleft_drop _ _ _ _ _ _ _ (hQR _))) | (go_at_call 29; exact Calls.quiet_of (fleft_q _ _ _ _ _ _ (hQF _))) | (go_at_call 30; exact Calls.quiet_of_same (rerr_any _ _ _ _ _ _ (hQR _))) | (go_at_call 31; exact Calls.quiet_of_same (rdone_any _ _ _ _ _ _ (hQR _))) | (go_at_call 32; exact Calls.quiet_of (fdone_q _ _ _ _ _ _ (hQF _))) | (go_at_call 11; exact Calls.quiet_of_same (num_any _ _)))
              clear hR6 hF6 cE hb6 n1 n2 n3
              go_wp2
              go_roundw
              case rel => exact ⟨j + 1, A, E, by omega, by go_num, hQR _, hQF _, hbq _⟩
              case measure => simp [intOf]; omega
            · have e0 : (N == 0) = false := by simp [hN0]
              have e1 : (N == 1) = false := by simp [hN1]
              go_wp2_with fail
              refine (rtext_all _ _ _ _ _ _ hR).mono ?_
              rintro e w5 ⟨rfl, hR5, hc5⟩
              have hF5 := hF.chg hc5 (by show ¬ (q = hh); omega) (by show ¬ (gq = hh); omega)
              go_wp2_with fail
              refine (ftext_all _ _ _ _ _ _ hF5).mono ?_
              rintro e w6 ⟨rfl, hF6, hc6⟩
              have hR6 := hR5.chg hc6 (by show ¬ (hh + 1 = q); omega) (by show ¬ (hh = q); omega) (by show ¬ (gg = q); omega)
              have hb6 : Below w.heap.size w w6 := (hbl.trans (hc5.below hbl.size (fun i e => by omega))).trans (hc6.below (by have := hbl.size; have := hc5.size; omega) (fun i e => by omega))
              rw [drop_cut] at hR6
              generalize cutOf (bs.drop at') err (2 + tlOf (bs.drop at')) = ct at hR6 hF6
              generalize at' + ct = A at hR6 hF6
              generalize errOf (bs.drop at') err (2 + tlOf (bs.drop at')) = E at hR6 hF6
              generalize ansText (bs.drop at') err = X
              clear hR hF hbl hR5 hF5 hc5 hc6 hck hL
              obtain ⟨_, _, cE⟩ := hF6.at1
              have n1 : (((bs.length - A : Nat) : Int) != ((bs.length - A : Nat) : Int)) = false := by simp
              have n2 : (E != E) = false := by simp
              have hQF : ∀ n, RfS (w6.drewN n) q gq bs A E := fun n => hF6.chg (Chg.drewN _ _ (fun _ => False)) id id
              have hQR : ∀ n, RdS (w6.drewN n) (hh + 1) hh gg (bs.drop A) E := fun n => hR6.chg (Chg.drewN _ _ (fun _ => False)) id id id
              have n3 : (doneOf (bs.drop A) E != doneOf (bs.drop A) E) = false := by simp
              have hbq : ∀ n, Below w.heap.size w (w6.drewN n) := fun n => below_drewN hb6 n
              go_wp2
              go_quiet (first | (go_at_call 28; exact Calls.quiet_of_same (rleft_drop _ _ _ _ _ _ _ (hQR _))) | (go_at_call 29; exact Calls.quiet_of (fleft_q _ _ _ _ _ _ (hQF _))) | (go_at_call 30; exact Calls.quiet_of_same (rerr_any _ _ _ _ _ _ (hQR _))) | (go_at_call 31; exact Calls.quiet_of_same (rdone_any _ _ _ _ _ _ (hQR _))) | (go_at_call 32; exact Calls.quiet_of (fdone_q _ _ _ _ _ _ (hQF _))) | (go_at_call 11; exact Calls.quiet_of_same (num_any _ _)))
              clear hR6 hF6 cE hb6 n1 n2 n3
              go_wp2
              go_roundw
              case rel => exact ⟨j + 1, A, E, by omega, by go_num, hQR _, hQF _, hbq _⟩
              case measure => simp [intOf]; omega
        · go_wp2
          go_ret
          exact ⟨rfl, hbl⟩
end Go.Proofs.YtjnmgnnaefiegaaDoor
