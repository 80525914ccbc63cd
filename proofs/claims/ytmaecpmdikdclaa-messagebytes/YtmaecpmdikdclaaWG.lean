/- What a Writer's Text and Bytes do. -/
import Derived.Test.YtmaecpmdikdclaaWF
import Derived.Deep.RegionLaw
import Derived.Deep.DeepCutAuto
namespace Go.Proofs.Ytmaecpmdikdclaa
open Go.RowKit

set_option maxHeartbeats 1000000 in
theorem int_full (p h : Nat) (ao0 : Option Addr) (len cap0 : Nat) (ao : Option Addr) (n cap : Nat) (w : World) (H : WrE w p h (.slice ao0 len cap0) 0) (hl : len ≤ 1048576)
    (hroom : 1048576 - len < 8 * n) :
    Calls Try.prog 38 #[.pointer (some ⟨p, 0, none⟩), .slice ao n cap] w fun e w' => e = .returned (.int .i64 6) ∧ w' = (w.setCell ⟨h, 1, none⟩ (.int .i64 6)).setCell ⟨h, 1, none⟩ (.int .i64 0) := by
  have H6 := H.set1 6
  obtain ⟨c0, c1, f0, f1⟩ := cells2 H6.hh
  have cp := cell_of_one H6.hp
  go_enter Try.func38, Try.ntmps38
  go_wp2_with fail
  refine (made_any p h _ 0 w H).mono ?_
  rintro e w1 ⟨rfl, hw⟩
  subst hw
  go_wp2_with fail
  refine (needRoom_no p h ao0 len cap0 0 n 8 _ H hl (by decide) (by decide) (by omega)).mono ?_
  rintro e w2 ⟨rfl, hw⟩
  rw [if_pos rfl] at hw
  subst hw
  go_wp2_with fail
  refine (endCall_any p h _ 6 _ H6).mono ?_
  rintro e w2 ⟨rfl, rfl⟩
  go_wp2
  go_ret
  exact ⟨rfl, rfl⟩

/-- At ao there lie the texts ss. -/
def Ss (w : World) (ao : Option Addr) (ss : List (List UInt8)) : Prop :=
  ss = [] ∨ ∃ b off, ao = some ⟨b, off, none⟩ ∧ ∀ j (h : j < ss.length), w.cell? ⟨b, off + j, none⟩ = some (.string ⟨ss[j].toArray⟩)
def text (s : List UInt8) : List UInt8 := be s.length 2 ++ s
theorem text_length (s : List UInt8) : (text s).length = 2 + s.length := by rw [text, List.length_append, be_length]
def texts (ss : List (List UInt8)) : List UInt8 := ss.flatMap text
theorem texts_snoc (ss : List (List UInt8)) (k : Nat) (h : k < ss.length) : texts (ss.take (k + 1)) = texts (ss.take k) ++ text ss[k] := by
  rw [List.take_succ_eq_append_getElem h]; simp only [texts, List.flatMap_append, List.flatMap_cons, List.flatMap_nil, List.append_nil]
theorem texts_take_le (ss : List (List UInt8)) (k : Nat) : (texts (ss.take k)).length ≤ (texts ss).length := by
  have : texts ss = texts (ss.take k) ++ texts (ss.drop k) := by
    rw [texts, texts, texts, ← List.flatMap_append, List.take_append_drop]
  rw [this, List.length_append]; omega

attribute [local go_sem ↓] Go.wp_at_zero Go.wp_at_succ
set_option maxHeartbeats 2000000 in
theorem text_ok (p h base : Nat) (v : Value) (bs : List UInt8) (ao : Option Addr) (n cap : Nat) (ss : List (List UInt8)) (w : World) (H : WrE w p h v 0) (hO : OwnB w base v bs) (hbase : base ≤ w.heap.size) (hl : bs.length ≤ 1048576) (hn : ss.length = n) (hm : n ≤ 140737488355328)
    (hI : ∀ w', Chg w w' (WSet h v) → Ss w' ao ss) (hall : ∀ j (h : j < ss.length), ss[j].length ≤ 65535) (hroom : (texts ss).length ≤ 1048576 - bs.length) :
    Calls Try.prog 84 #[.pointer (some ⟨p, 0, none⟩), .slice ao n cap] w fun e w' => ∃ v', e = .returned (.int .i64 0) ∧ WrE w' p h v' 0 ∧ OwnB w' base v' (bs ++ texts ss) ∧ WStep h w v w' v' := by
  obtain ⟨ao0, cap0, rfl, hle0, hmx0, hB0, hat0, hnone0⟩ := Own.bs hO
  have hS0 := hI w (Chg.refl _ _)
  go_enter Try.func84, Try.ntmps84
  go_wp2_with fail
  refine (made_any p h _ 0 w H).mono ?_
  rintro e w1 ⟨rfl, hw⟩
  subst hw
  go_wp2
  go_loop [5, 15] (fun sz i => ∃ k : Nat, k ≤ n ∧ i = .int .i64 k ∧ sz = .int .i64 ((texts (ss.take k)).length : Nat)) (fun _ i => n - (intOf i).toNat)
  case atStart => exact ⟨0, Nat.zero_le _, rfl, rfl⟩
  case round =>
    obtain ⟨k, hk, rfl, rfl⟩ := hrel
    have htk := texts_take_le ss k
    by_cases hlt : k < n
    · rcases hS0 with hS0 | ⟨b, off, rfl, hc⟩
      · subst hS0; simp at hn; omega
      · have hck := hc k (by omega)
        have hak := hall k (by omega)
        have HS : Hid ((texts (ss.take (k + 1))).length = (texts (ss.take k)).length + (2 + (ss[k]'(by omega)).length)) := hid (by rw [texts_snoc _ _ (by omega), List.length_append, text_length])
        generalize ss[k]'(by omega) = s at hck hak HS
        generalize (texts (ss.take k)).length = T at htk HS
        clear hc hI
        go_wp2
        go_round
        case rel => exact ⟨k + 1, by omega, by go_num, by rw [HS.out]; go_num⟩
        case measure => simp [intOf]; omega
    · have HE : Hid (ss.take k = ss) := List.take_of_length_le (by omega)
      rw [HE.out] at htk ⊢
      go_wp2_with fail
      refine (needRoom_ok p h ao0 bs.length cap0 0 _ 1 _ H hl (by decide) (by decide) (by omega)).mono ?_
      rintro e w1 ⟨rfl, hw⟩
      subst hw
      obtain ⟨c0, c1, f0, f1⟩ := cells2 H.hh
      have cp := cell_of_one H.hp
      go_wp2
      go_loopw [46] (fun i wr => ∃ (k : Nat) (vr : Value), k ≤ n ∧ i = .int .i64 k ∧ WrE wr p h vr 0 ∧ OwnB wr base vr (bs ++ texts (ss.take k)) ∧ WStep h w1 (.slice ao0 bs.length cap0) wr vr) (fun i _ => n - (intOf i).toNat)
      case atStart => exact ⟨0, _, Nat.zero_le _, rfl, H, by simpa [texts] using hO, WStep.refl _ _ _⟩
      case round =>
        clear htk HE hk hlt
        obtain ⟨m, vr, hmn, rfl, Hr, hOr, hsr⟩ := hrel
        by_cases hml : m < n
        · have htk := texts_take_le ss m
          have htk1 := texts_take_le ss (m + 1)
          have HS : Hid (bs ++ texts (ss.take (m + 1)) = (bs ++ texts (ss.take m)) ++ be (ss[m]'(by omega)).length 2 ++ ss[m]'(by omega)) := hid (by rw [texts_snoc _ _ (by omega), text]; simp only [List.append_assoc])
          rw [texts_snoc _ _ (by omega), List.length_append, text_length] at htk1
          have hlen : (bs ++ texts (ss.take m)).length = bs.length + (texts (ss.take m)).length := List.length_append
          have hsz : base ≤ wr.heap.size := Nat.le_trans hbase hsr.1.size
          rcases hI wr hsr.1 with hI' | ⟨b, off, rfl, hc⟩
          · subst hI'; simp at hn; omega
          · have hcm := hc m (by omega)
            have ham := hall m (by omega)
            generalize ss[m]'(by omega) = s at hcm ham HS htk1
            generalize (texts (ss.take m)).length = T at htk htk1 hlen
            generalize bs ++ texts (ss.take m) = xs at hOr hlen HS
            obtain ⟨d0, d1, g0, g1⟩ := cells2 Hr.hh
            have dp := cell_of_one Hr.hp
            clear hc hI c0 c1 f0 f1 cp hB0 hS0 hall
            go_wp2
            go_cut [] (fun wx => ∃ v2, WrE wx p h v2 0 ∧ OwnB wx base v2 (xs ++ be s.length 2) ∧ WStep h w1 (.slice ao0 bs.length cap0) wx v2)
            case first =>
              go_region_with (first | (go_at_call 65; refine (appendNumber_at base s.length 2 _ _ _ xs _ (by first | omega | (simp only [IntKind.wrap_u64]; omega)) rfl (by exact hOr) (by decide) (by omega) (by exact hsz)).mono ?_; rintro e w2 ⟨v2, rfl, hO2, hs2⟩; obtain ⟨ao2, cap2, hv2, _, _, _, _, _⟩ := Own.bs hO2; rw [List.length_append, be_length, hlen] at hv2; subst hv2; have hs3 : Step wr vr w2 _ := (Step.refl wr vr).drew.trans hs2; have H2 := Hr.step hOr hs3; obtain ⟨q0, q1, q2, q3⟩ := cells2 H2.hh; have qp := cell_of_one H2.hp))
              all_goals
                have R1 : WrE (w2.setCell ⟨h, 0, none⟩ (.slice ao2 (bs.length + T + 2) cap2)) p h (.slice ao2 (bs.length + T + 2) cap2) 0 := H2.set0 _
                have R2 : OwnB (w2.setCell ⟨h, 0, none⟩ (.slice ao2 (bs.length + T + 2) cap2)) base (.slice ao2 (bs.length + T + 2) cap2) (xs ++ be s.length 2) := ownsRow_setCell_other hO2 (H2.apart hO2).2 _
                have R3 := hsr.trans ((WStep.of_step (h := h) hs3).trans (WStep.setCell h 0 w2 _ (.slice ao2 (bs.length + T + 2) cap2)))
                clear hs2 hs3 H2 q0 q1 q2 q3 qp hO2
                go_wp2
                go_meet
                case rel => exact ⟨_, R1, R2, R3⟩
            case rest =>
              clear hcm d0 d1 g0 g1 dp Hr hsr hOr hsz
              obtain ⟨vc, Hc, hOc, hsc⟩ := hcut
              have hszc : base ≤ wc.heap.size := Nat.le_trans hbase hsc.1.size
              have hlc : (xs ++ be s.length 2).length = bs.length + T + 2 := by rw [List.length_append, be_length, hlen]
              generalize xs ++ be s.length 2 = ys at hOc hlc HS
              obtain ⟨d0, d1, g0, g1⟩ := cells2 Hc.hh
              have dp := cell_of_one Hc.hp
              go_wp2
              go_region_law ((refine step_app _ (by rfl) _ _ _ _ (by rfl) elem_u8 base vc _ (by rfl) (by exact hOc) _ (by rfl) (s.map bv) (src_str _ Try.underlying9 s) (by simp only [List.length_map, hlc]; unfold maxLen; omega) (by simp only [List.length_map, hlc]; omega) (by exact hszc) ?_; intro v2 w2 hO2 hs2; rw [← List.map_append] at hO2; obtain ⟨ao2, cap2, hv2, _, _, _, _, _⟩ := Own.bs hO2; rw [List.length_append, hlc] at hv2; subst hv2; have hs3 : Step wc vc w2 _ := (Step.refl wc vc).drew.trans hs2; have H2 := Hc.step hOc hs3; obtain ⟨q0, q1, q2, q3⟩ := cells2 H2.hh; have qp := cell_of_one H2.hp))
              all_goals
                have R1 : WrE (w2.setCell ⟨h, 0, none⟩ (.slice ao2 (bs.length + T + 2 + s.length) cap2)) p h (.slice ao2 (bs.length + T + 2 + s.length) cap2) 0 := H2.set0 _
                have R2 : OwnB (w2.setCell ⟨h, 0, none⟩ (.slice ao2 (bs.length + T + 2 + s.length) cap2)) base (.slice ao2 (bs.length + T + 2 + s.length) cap2) (bs ++ texts (ss.take (m + 1))) := by
                  rw [HS.out]; exact ownsRow_setCell_other hO2 (H2.apart hO2).2 _
                have R3 := hsc.trans ((WStep.of_step (h := h) hs3).trans (WStep.setCell h 0 w2 _ (.slice ao2 (bs.length + T + 2 + s.length) cap2)))
                clear hs2 hs3 H2 q0 q1 q2 q3 qp hO2 Hc hOc hsc d0 d1 g0 g1 dp
                go_wp2
                go_roundw
                case rel => exact ⟨m + 1, _, by omega, by go_num, R1, R2, R3⟩
                case measure => simp [intOf]; omega
        · have HE : Hid (ss.take m = ss) := List.take_of_length_le (by omega)
          go_wp2_with fail
          refine (endCall_any p h _ 0 _ Hr).mono ?_
          rintro e w2 ⟨rfl, rfl⟩
          go_wp2
          go_ret
          rw [HE.out] at hOr
          exact ⟨vr, rfl, Hr.set1 0, ownsRow_setCell_other hOr (Hr.apart hOr).2 _, hsr.trans (WStep.setCell _ _ _ _ _)⟩

set_option maxHeartbeats 400000 in
theorem bytes_any (p h base : Nat) (v : Value) (bs : List UInt8) (w : World) (H : WrE w p h v 0) (hO : OwnB w base v bs) (hl : bs.length ≤ 1048576) :
    Calls Try.prog 67 #[.pointer (some ⟨p, 0, none⟩)] w fun e w' => e = .returned (.slice (some ⟨w.heap.size, 0, none⟩) bs.length bs.length) ∧ OwnB w' w.heap.size (.slice (some ⟨w.heap.size, 0, none⟩) bs.length bs.length) bs ∧ Below w.heap.size w w' := by
  obtain ⟨ao0, cap0, rfl, hle0, hmx0, hB0, hat0, hnone0⟩ := Own.bs hO
  obtain ⟨c0, c1, f0, f1⟩ := cells2 H.hh
  have cp := cell_of_one H.hp
  go_enter Try.func67, Try.ntmps67
  go_wp2_with fail
  refine (made_any p h _ 0 w H).mono ?_
  rintro e w1 ⟨rfl, hw⟩
  subst hw
  go_wp2_with fail
  refine (fresh_any ao0 bs.length cap0 bs _ rfl (by omega) hB0).mono ?_
  rintro e w2 ⟨rfl, hO2, hb2⟩
  go_wp2
  go_ret
  exact ⟨rfl, hO2, hb2⟩

end Go.Proofs.Ytmaecpmdikdclaa
