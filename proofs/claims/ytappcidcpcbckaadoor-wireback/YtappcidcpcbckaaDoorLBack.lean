/- The law WireBack, walked. -/
import Derived.Test.YtappcidcpcbckaaDoorNums
import Derived.Deep.RegionWith
namespace Go.Proofs.YtappcidcpcbckaaDoor
open Go.RowKit

/-- The Writer that the law made: at the two blocks behind w. -/
structure Mine (w wr : World) (vr : Value) (bs : List UInt8) : Prop where
  H : WrE wr (w.heap.size + 1) w.heap.size vr 0
  hO : OwnB wr (w.heap.size + 2) vr bs
  hb : Below w.heap.size w wr
  hz : w.heap.size + 2 ≤ wr.heap.size
  hl : bs.length ≤ 1048576
theorem Mine.step {w wr w2 : World} {vr v2 : Value} {bs bs2 : List UInt8} (M : Mine w wr vr bs) (H : WrE w2 (w.heap.size + 1) w.heap.size v2 0) (hO : OwnB w2 (w.heap.size + 2) v2 bs2) (hs : WStep w.heap.size wr vr w2 v2) (hl : bs2.length ≤ 1048576) : Mine w w2 v2 bs2 :=
  ⟨H, hO, M.hb.trans (hs.below (by have := M.hz; omega) (Nat.le_refl _) (fun k e => by have := (M.hO.lt k e).1; omega)), Nat.le_trans M.hz hs.1.size, hl⟩
theorem Mine.stop {w wr w2 : World} {vr : Value} {bs : List UInt8} (M : Mine w wr vr bs) (hc : Chg wr w2 (fun k => k = w.heap.size)) : Below w.heap.size w w2 :=
  M.hb.trans (hc.below (by have := M.hz; omega) (fun i e => by omega))
theorem Mine.knows {w wr : World} {vr : Value} {bs : List UInt8} (M : Mine w wr vr bs) (ht : Tab w) : Tab wr := ht.keep (below_keep M.hb)

theorem wrap_byte (x : UInt8) : wrap64 ((x.toNat : Nat) : Int) = ((x.toNat : Nat) : Int) := by
  have := x.toNat_lt
  unfold wrap64; omega
theorem kwrap_byte (x : UInt8) : IntKind.i64.wrap ((x.toNat : Nat) : Int) = ((x.toNat : Nat) : Int) := by
  have := x.toNat_lt
  rw [IntKind.wrap_i64]; omega

attribute [local go_sem ↓] Go.wp_at_zero Go.wp_at_succ
set_option maxHeartbeats 8000000 in
set_option maxRecDepth 100000 in
theorem wireBack_walk (aL aM aO : Option Addr) (nL cL nM cM nO cO : Nat) (ls : List Int) (ms : List (List UInt8)) (os : List UInt8) (w : World)
    (hlL : ls.length = nL) (hlM : ms.length = nM) (hlO : os.length = nO) (hmL : nL ≤ 140737488355328) (hmM : nM ≤ 140737488355328) (hmO : nO ≤ 140737488355328)
    (hL : Is w aL ls) (hM : Ss w aM ms) (hO : Bs w aO os) (hrL : ∀ j (h : j < ls.length), -9223372036854775808 ≤ ls[j] ∧ ls[j] ≤ 9223372036854775807) (hrM : ∀ j (h : j < ms.length), ms[j].length ≤ 9223372036854775807) (ht : Tab w) :
    Calls Tryd.prog 8 #[.slice aL nL cL, .slice aM nM cM, .slice aO nO cO] w fun e w' => e = .returned (.bool true) ∧ Below w.heap.size w w' := by
  go_enter Tryd.func8, Tryd.ntmps8
  go_wp2_with fail
  refine (newWriter_any w).mono ?_
  rintro e w1 ⟨rfl, hw1⟩
  have M1 : Mine w w1 (.slice none 0 0) [] := by
    rw [hw1]
    exact ⟨newWriter_wr w, Own.nil _ _ _, ((Below.refl _ _).alloc (Nat.le_refl _) _).alloc (by simp) _, by simp, by decide⟩
  clear hw1
  go_wp2
  go_loopw [8] (fun i wr => ∃ (k : Nat) (vr : Value), k ≤ nL ∧ i = .int .i64 k ∧ Mine w wr vr (ints (ls.take k))) (fun i _ => nL - (intOf i).toNat)
  case atStart => exact ⟨0, _, Nat.zero_le _, rfl, M1⟩
  case round =>
    obtain ⟨k, vr, hk, rfl, M⟩ := hrel
    by_cases hlt : k < nL
    · have HS : Hid (ints (ls.take (k + 1)) = ints (ls.take k) ++ be64 (ls[k]'(by omega))) := hid (ints_snoc _ _ (by omega))
      rcases hL.keep (below_keep M.hb) with h0 | ⟨b, off, hao, hc⟩
      · subst h0; simp at hlL; omega
      · subst hao
        have hck := hc k (by omega)
        generalize ls[k]'(by omega) = N at hck HS
        generalize ints (ls.take k) = xs at M HS
        by_cases hroom : xs.length + 8 ≤ 1048576
        · clear hc hL hM hO hrL hrM M1
          go_wp2_with fail
          refine (int_one _ _ _ _ vr xs N wr rfl M.H M.hO M.hz hroom).mono ?_
          rintro e w2 ⟨v2, rfl, H2, hO2, hs2⟩
          have M2 := M.step H2 hO2 hs2 (by rw [List.length_append, be64_length]; omega)
          rw [← HS.out] at M2
          clear H2 hO2 hs2 M hck
          go_wp2_with (go_at_call 11; refine (num_any _ _).mono ?_; rintro e w' ⟨rfl, hw⟩; subst hw)
          go_roundw
          case rel => exact ⟨k + 1, _, by omega, by go_num, M2⟩
          case measure => simp [intOf]; omega
        · clear hc hL hM hO hrL hrM M1
          go_wp2_with fail
          refine (int_none _ _ _ _ vr xs N wr rfl M.H M.hO M.hl (by omega)).mono ?_
          rintro e w2 ⟨rfl, hc2⟩
          have hb2 := M.stop hc2
          have ht2 := ht.keep (below_keep hb2)
          clear M hck hc2
          go_wp2_with (first | (go_at_call 11; refine (num_any _ _).mono ?_; rintro e w' ⟨rfl, hw⟩; subst hw) | (go_at_call 10; refine (knows_any _ ht2).mono ?_; rintro e w' ⟨rfl, hb3⟩))
          go_ret
          exact ⟨rfl, hb2.trans (hb3.mono hb2.size)⟩
    · have HE : ls.take k = ls := List.take_of_length_le (by omega)
      rw [HE] at M
      clear HE M1
      go_wp2
      go_loopw [9] (fun i wr => ∃ (m : Nat) (vr : Value), m ≤ nM ∧ i = .int .i64 m ∧ Mine w wr vr (ints ls ++ texts (ms.take m)) ∧ ∀ j (h : j < ms.length), j < m → ms[j].length ≤ 65535) (fun i _ => nM - (intOf i).toNat)
      case atStart => exact ⟨0, _, Nat.zero_le _, rfl, by simpa [texts] using M, fun _ _ h => by omega⟩
      case round =>
        clear M
        obtain ⟨m, vr, hmn, rfl, M, hsh⟩ := hrel
        by_cases hmt : m < nM
        · have HS : Hid (ints ls ++ texts (ms.take (m + 1)) = (ints ls ++ texts (ms.take m)) ++ text (ms[m]'(by omega))) := hid (by rw [texts_snoc _ _ (by omega), List.append_assoc])
          rcases hM.keep (below_keep M.hb) with h0 | ⟨b, off, hao, hc⟩
          · subst h0; simp at hlM; omega
          · subst hao
            have hck := hc m (by omega)
            have hsm := hrM m (by omega)
            have hsh1 : (ms[m]'(by omega)).length ≤ 65535 → ∀ j (h : j < ms.length), j < m + 1 → ms[j].length ≤ 65535 := fun hx j hj hjm => by
              by_cases e : j = m
              · subst e; exact hx
              · exact hsh j hj (by omega)
            generalize ms[m]'(by omega) = s at hck HS hsm hsh1
            generalize ints ls ++ texts (ms.take m) = xs at M HS
            by_cases hroom : s.length ≤ 65535 ∧ xs.length + (2 + s.length) ≤ 1048576
            · obtain ⟨hr1, hr2⟩ := hroom
              have hsh2 := hsh1 hr1
              clear hc hL hM hO hrL hrM hsh hsh1
              go_wp2_with fail
              refine (text_one _ _ _ _ vr xs s wr rfl M.H M.hO M.hz hr1 hr2).mono ?_
              rintro e w2 ⟨v2, rfl, H2, hO2, hs2⟩
              have M2 := M.step H2 hO2 hs2 (by rw [List.length_append, text_length]; omega)
              rw [← HS.out] at M2
              have HH : Hid (∀ j (h : j < ms.length), j < m + 1 → ms[j].length ≤ 65535) := hsh2
              clear H2 hO2 hs2 M hck hsh2
              go_wp2_with (go_at_call 11; refine (num_any _ _).mono ?_; rintro e w' ⟨rfl, hw⟩; subst hw)
              go_roundw
              case rel => exact ⟨m + 1, _, by omega, by go_num, M2, HH.out⟩
              case measure => simp [intOf]; omega
            · have hbad : 65535 < s.length ∨ 1048576 < xs.length + (2 + s.length) := by omega
              clear hc hL hM hO hrL hrM hsh hsh1 hroom
              go_wp2_with fail
              refine (text_none _ _ _ _ vr xs s wr rfl M.H M.hO M.hl (by omega) hbad).mono ?_
              rintro e w2 ⟨rfl, hc2⟩
              have hb2 := M.stop hc2
              have ht2 := ht.keep (below_keep hb2)
              clear M hck hc2 hbad
              go_wp2_with (first | (go_at_call 11; refine (num_any _ _).mono ?_; rintro e w' ⟨rfl, hw⟩; subst hw) | (go_at_call 10; refine (knows_any _ ht2).mono ?_; rintro e w' ⟨rfl, hb3⟩))
              go_ret
              exact ⟨rfl, hb2.trans (hb3.mono hb2.size)⟩
        · have HE : ms.take m = ms := List.take_of_length_le (by omega)
          rw [HE] at M
          have hshort : Hid (∀ j (h : j < ms.length), ms[j].length ≤ 65535) := hid (fun j h => hsh j h (by omega))
          clear HE hsh
          go_wp2
          go_loopw [10] (fun i wr => ∃ (q : Nat) (vr : Value), q ≤ nO ∧ i = .int .i64 q ∧ Mine w wr vr ((ints ls ++ texts ms) ++ os.take q)) (fun i _ => nO - (intOf i).toNat)
          case atStart => exact ⟨0, _, Nat.zero_le _, rfl, by simpa using M⟩
          case round =>
            clear M
            obtain ⟨q, vr, hqn, rfl, M⟩ := hrel
            by_cases hqt : q < nO
            · have HS : Hid ((ints ls ++ texts ms) ++ os.take (q + 1) = ((ints ls ++ texts ms) ++ os.take q) ++ [os[q]'(by omega)]) := hid (by rw [List.take_succ_eq_append_getElem (by omega), ← List.append_assoc])
              rcases hO.keep (below_keep M.hb) with h0 | ⟨b, off, hao, hc⟩
              · subst h0; simp at hlO; omega
              · subst hao
                have hck := hc q (by omega)
                generalize os[q]'(by omega) = x at hck HS
                generalize (ints ls ++ texts ms) ++ os.take q = xs at M HS
                by_cases hroom : xs.length + 1 ≤ 1048576
                · clear hc hL hM hO hrL hrM
                  go_wp2_with fail
                  rw [wrap_byte]
                  refine (byte_one _ _ _ _ vr xs x wr rfl M.H M.hO M.hz hroom).mono ?_
                  rintro e w2 ⟨v2, rfl, H2, hO2, hs2⟩
                  have M2 := M.step H2 hO2 hs2 (by rw [List.length_append, List.length_singleton]; omega)
                  rw [← HS.out] at M2
                  clear H2 hO2 hs2 M hck
                  go_wp2_with (go_at_call 11; refine (num_any _ _).mono ?_; rintro e w' ⟨rfl, hw⟩; subst hw)
                  go_roundw
                  case rel => exact ⟨q + 1, _, by omega, by go_num, M2⟩
                  case measure => simp [intOf]; omega
                · clear hc hL hM hO hrL hrM
                  go_wp2_with fail
                  rw [wrap_byte]
                  refine (byte_none _ _ _ _ vr xs x wr rfl M.H M.hO M.hl (by omega)).mono ?_
                  rintro e w2 ⟨rfl, hc2⟩
                  have hb2 := M.stop hc2
                  have ht2 := ht.keep (below_keep hb2)
                  clear M hck hc2
                  go_wp2_with (first | (go_at_call 11; refine (num_any _ _).mono ?_; rintro e w' ⟨rfl, hw⟩; subst hw) | (go_at_call 10; refine (knows_any _ ht2).mono ?_; rintro e w' ⟨rfl, hb3⟩))
                  go_ret
                  exact ⟨rfl, hb2.trans (hb3.mono hb2.size)⟩
            · have HE : os.take q = os := List.take_of_length_le (by omega)
              rw [HE] at M
              clear HE
              generalize hall : ints ls ++ texts ms ++ os = all at M
              have Hall : Hid (ints ls ++ (texts ms ++ os) = all) := hid (by rw [← hall, List.append_assoc])
              clear hall
              go_wp2_with fail
              refine (bytes_any _ _ _ vr _ wr M.H M.hO M.hl).mono ?_
              rintro e w2 ⟨rfl, hO2, hb2'⟩
              have hb2 : Below w.heap.size w w2 := M.hb.trans (hb2'.mono M.hb.size)
              have hsz2 : w.heap.size ≤ wr.heap.size := M.hb.size
              have hal := M.hl
              have hB2 : Bs w2 (some ⟨wr.heap.size, 0, none⟩) all := by
                obtain ⟨ao2, cap2, hv2, _, _, hB2, _, _⟩ := Own.bs hO2
                simp only [Value.slice.injEq] at hv2
                rw [hv2.1]; exact hB2
              clear M hb2' hO2
              go_wp2_with fail
              refine (rnew_any _ _ _ all w2 rfl (by omega) hB2).mono ?_
              rintro e w3 ⟨hh, rfl, hhz, hR3, hb3'⟩
              have hb3 : Below w.heap.size w w3 := hb2.trans (hb3'.mono hb2.size)
              have hhh : w.heap.size ≤ hh := by have := hb2.size; omega
              rw [← Hall.out] at hR3
              generalize w2.heap.size = gg at hR3
              clear hb2 hb3' hB2 hal hhz
              go_wp2
              go_loopw [12] (fun i wr => ∃ (k : Nat), k ≤ nL ∧ i = .int .i64 k ∧ RdS wr (hh + 1) hh gg (ints (ls.drop k) ++ (texts ms ++ os)) 0 ∧ Below w.heap.size w wr) (fun i _ => nL - (intOf i).toNat)
              case atStart => exact ⟨0, Nat.zero_le _, rfl, by simpa using hR3, hb3⟩
              case round =>
                clear hR3 hb3
                obtain ⟨k, hkn, rfl, hR, hb⟩ := hrel
                by_cases hlt : k < nL
                · have hck : ∃ b off, aL = some ⟨b, off, none⟩ ∧ b < w.heap.size ∧ wr.cell? ⟨b, off + k, none⟩ = some (.int .i64 (ls[k]'(by omega))) := by
                    rcases hL with h0 | ⟨b, off, hao, hc⟩
                    · subst h0; simp at hlL; omega
                    · exact ⟨b, off, hao, World.block_lt_of_cell? _ _ (hc k (by omega)), below_keep hb _ _ (hc k (by omega))⟩
                  obtain ⟨b, off, rfl, hbw, hck⟩ := hck
                  obtain ⟨hr1, hr2⟩ := hrL k (by omega)
                  rw [ints_drop _ _ (by omega), List.append_assoc] at hR
                  generalize ls[k]'(by omega) = N at hck hR hr1 hr2
                  have hne : (N != N) = false := by simp
                  clear hL hM hO hrL hrM
                  go_wp2
                  go_region_with (first | (go_at_call 24; refine (rint_back _ _ _ N _ _ (by exact hR.drew) hr1 hr2).mono ?_; rintro e w4 ⟨rfl, hR4, hc4⟩; have hk4 : Chg wr w4 (fun k => k = hh) := (Chg.drew wr _).trans hc4 (fun _ _ e => e); have hck4 := hk4.cell hck (by simp; omega)))
                  all_goals
                    have hb4 := rd_below hb hhh hk4
                    clear hc4 hk4 hck4 hR hb hck
                    go_wp2
                    go_roundw
                    case rel => exact ⟨k + 1, by omega, by go_num, hR4, hb4⟩
                    case measure => simp [intOf]; omega
                · have HE : ls.drop k = [] := List.drop_eq_nil_of_le (by omega)
                  rw [HE] at hR
                  replace hR : RdS wr (hh + 1) hh gg (texts ms ++ os) 0 := hR
                  clear HE hL hrL
                  go_wp2
                  go_loopw [13] (fun i wr => ∃ (k : Nat), k ≤ nM ∧ i = .int .i64 k ∧ RdS wr (hh + 1) hh gg (texts (ms.drop k) ++ os) 0 ∧ Below w.heap.size w wr) (fun i _ => nM - (intOf i).toNat)
                  case atStart => exact ⟨0, Nat.zero_le _, rfl, by simpa using hR, hb⟩
                  case round =>
                    clear hR hb
                    obtain ⟨k, hkn, rfl, hR, hb⟩ := hrel
                    by_cases hlt : k < nM
                    · have hck : ∃ b off, aM = some ⟨b, off, none⟩ ∧ b < w.heap.size ∧ wr.cell? ⟨b, off + k, none⟩ = some (.string ⟨(ms[k]'(by omega)).toArray⟩) := by
                        rcases hM with h0 | ⟨b, off, hao, hc⟩
                        · subst h0; simp at hlM; omega
                        · exact ⟨b, off, hao, World.block_lt_of_cell? _ _ (hc k (by omega)), below_keep hb _ _ (hc k (by omega))⟩
                      obtain ⟨b, off, rfl, hbw, hck⟩ := hck
                      have hr1 := hshort.out k (by omega)
                      rw [texts_drop _ _ (by omega), List.append_assoc] at hR
                      generalize ms[k]'(by omega) = s at hck hR hr1
                      clear hM hO hrM
                      go_wp2
                      go_region_with (first | (go_at_call 26; refine (rtext_back _ _ _ s _ _ (by exact hR.drew) hr1).mono ?_; rintro e w4 ⟨rfl, hR4, hc4⟩; have hk4 : Chg wr w4 (fun k => k = hh) := (Chg.drew wr _).trans hc4 (fun _ _ e => e); have hck4 := hk4.cell hck (by simp; omega)))
                      all_goals
                        have hb4 := rd_below hb hhh hk4
                        clear hc4 hk4 hck4 hR hb hck
                        go_wp2
                        go_roundw
                        case rel => exact ⟨k + 1, by omega, by go_num, hR4, hb4⟩
                        case measure => simp [intOf]; omega
                    · have HE : ms.drop k = [] := List.drop_eq_nil_of_le (by omega)
                      rw [HE] at hR
                      replace hR : RdS wr (hh + 1) hh gg os 0 := hR
                      clear HE hM hrM
                      go_wp2
                      go_loopw [14] (fun i wr => ∃ (k : Nat), k ≤ nO ∧ i = .int .i64 k ∧ RdS wr (hh + 1) hh gg (os.drop k) 0 ∧ Below w.heap.size w wr) (fun i _ => nO - (intOf i).toNat)
                      case atStart => exact ⟨0, Nat.zero_le _, rfl, by simpa using hR, hb⟩
                      case round =>
                        clear hR hb
                        obtain ⟨k, hkn, rfl, hR, hb⟩ := hrel
                        by_cases hlt : k < nO
                        · have hck : ∃ b off, aO = some ⟨b, off, none⟩ ∧ b < w.heap.size ∧ wr.cell? ⟨b, off + k, none⟩ = some (.int .u8 ((os[k]'(by omega)).toNat : Int)) := by
                            rcases hO with h0 | ⟨b, off, hao, hc⟩
                            · subst h0; simp at hlO; omega
                            · exact ⟨b, off, hao, World.block_lt_of_cell? _ _ (hc k (by omega)), below_keep hb _ _ (hc k (by omega))⟩
                          obtain ⟨b, off, rfl, hbw, hck⟩ := hck
                          rw [List.drop_eq_getElem_cons (by omega)] at hR
                          generalize os[k]'(by omega) = x at hck hR
                          have hwx := kwrap_byte x
                          have hne : (((x.toNat : Nat) : Int) != ((x.toNat : Nat) : Int)) = false := by simp
                          clear hO
                          go_wp2
                          go_region_with (first | (go_at_call 22; refine (rbyte_back _ _ _ x _ _ (by exact hR.drew)).mono ?_; rintro e w4 ⟨rfl, hR4, hc4⟩; have hk4 : Chg wr w4 (fun k => k = hh) := (Chg.drew wr _).trans hc4 (fun _ _ e => e); have hck4 := hk4.cell hck (by simp; omega)))
                          all_goals
                            have hb4 := rd_below hb hhh hk4
                            clear hc4 hk4 hck4 hR hb hck
                            go_wp2
                            go_roundw
                            case rel => exact ⟨k + 1, by omega, by go_num, hR4, hb4⟩
                            case measure => simp [intOf]; omega
                        · have HE : os.drop k = [] := List.drop_eq_nil_of_le (by omega)
                          rw [HE] at hR
                          have hd : doneOf [] 0 = 0 := rfl
                          go_wp2_with fail
                          refine (rdone_any _ _ _ [] 0 _ hR).mono ?_
                          rintro e w4 ⟨rfl, hw⟩
                          subst hw
                          rw [hd]
                          have ht4 := ht.keep (below_keep hb)
                          go_wp2_with (first | (go_at_call 11; refine (num_any _ _).mono ?_; rintro e w' ⟨rfl, hw⟩; subst hw) | (go_at_call 10; refine (knows_any _ ht4).mono ?_; rintro e w' ⟨rfl, hb5⟩))
                          go_ret
                          exact ⟨rfl, hb.trans (hb5.mono hb.size)⟩

end Go.Proofs.YtappcidcpcbckaaDoor
