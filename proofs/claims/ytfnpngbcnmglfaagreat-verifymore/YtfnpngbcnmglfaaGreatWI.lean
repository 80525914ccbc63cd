/- What a Writer's Byte does. A Writer's calls that are refused: nothing is written, the error is told. What package code writes: lists of types. What package code writes: instructions. -/
import Derived.Test.YtfnpngbcnmglfaaGreatWF
import Derived.Test.YtfnpngbcnmglfaaGreatCS
import Derived.Test.YtfnpngbcnmglfaaGreatXM
namespace Go.Proofs.YtfnpngbcnmglfaaGreat
open Go.RowKit

/-- Numbers as bytes. -/
def byts (ns : List Int) : List UInt8 := ns.map fun n => UInt8.ofNat n.toNat
theorem byts_snoc (ns : List Int) (k : Nat) (h : k < ns.length) : byts (ns.take (k + 1)) = byts (ns.take k) ++ [UInt8.ofNat ns[k].toNat] := by
  rw [List.take_succ_eq_append_getElem h]; simp only [byts, List.map_append, List.map_cons, List.map_nil]
theorem byts_length (ns : List Int) : (byts ns).length = ns.length := by simp [byts]

theorem src_new {P : Program} {tx e' : TypeId} (hk : P.underlying tx = some (.slice e')) (B : Nat) (x y : Value) (t : TypeId) (W : World) (hb : W.heap[B]? = some (.cells #[x] t (0, 0))) (h : x = y) (h1 : y.oneCell' = true) (c : Nat) : Src P 1 tx (.slice (some ⟨B, 0, none⟩) 1 c) [y].length [y] W := by
  subst h
  exact Src.ofSlice _ hk _ 1 c [x] rfl (World.news_of_block hb) (by intro u hu; simp at hu; subst hu; exact h1)

attribute [local go_sem ↓] Go.wp_at_zero Go.wp_at_succ
set_option maxHeartbeats 2000000 in
theorem byte_ok (p h base : Nat) (v : Value) (bs : List UInt8) (ao : Option Addr) (n cap : Nat) (ns : List Int) (w : World) (H : WrE w p h v 0) (hO : OwnB w base v bs) (hbase : base ≤ w.heap.size) (hl : bs.length ≤ 1048576) (hn : ns.length = n) (hm : n ≤ 140737488355328)
    (hI : ∀ w', Chg w w' (WSet h v) → Is w' ao ns) (hall : ∀ j (h : j < ns.length), 0 ≤ ns[j] ∧ ns[j] ≤ 255) (hroom : n ≤ 1048576 - bs.length) :
    Calls Tryz.prog 49 #[.pointer (some ⟨p, 0, none⟩), .slice ao n cap] w fun e w' => ∃ v', e = .returned (.int .i64 0) ∧ WrE w' p h v' 0 ∧ OwnB w' base v' (bs ++ byts ns) ∧ WStep h w v w' v' := by
  obtain ⟨ao0, cap0, rfl, hle0, hmx0, hB0, hat0, hnone0⟩ := Own.bs hO
  have hS0 := hI w (Chg.refl _ _)
  go_enter Tryz.func49, Tryz.ntmps49
  go_wp2_with fail
  refine (made_any p h _ 0 w H).mono ?_
  rintro e w1 ⟨rfl, hw⟩
  subst hw
  go_wp2
  go_loop [14] (fun i => ∃ k : Nat, k ≤ n ∧ i = .int .i64 k) (fun i => n - (intOf i).toNat)
  case atStart => exact ⟨0, Nat.zero_le _, rfl⟩
  case round =>
    obtain ⟨k, hk, rfl⟩ := hrel
    by_cases hlt : k < n
    · rcases hS0 with hS0 | ⟨b, off, rfl, hc⟩
      · subst hS0; simp at hn; omega
      · have hck := hc k (by omega)
        obtain ⟨ha1, ha2⟩ := hall k (by omega)
        generalize ns[k]'(by omega) = N at hck ha1 ha2
        have d1 : decide (N < 0) = false := by simp; omega
        have d2 : decide (255 < N) = false := by simp; omega
        clear hc hI
        go_wp2
        go_round
        case rel => exact ⟨k + 1, by omega, by go_num⟩
        case measure => simp [intOf]; omega
    · go_wp2_with fail
      refine (needRoom_ok p h ao0 bs.length cap0 0 n 1 _ H hl (by decide) (by decide) (by omega)).mono ?_
      rintro e w1 ⟨rfl, hw⟩
      subst hw
      obtain ⟨c0, c1, f0, f1⟩ := cells2 H.hh
      have cp := cell_of_one H.hp
      go_wp2
      go_loopw [44] (fun i wr => ∃ (m : Nat) (vr : Value), m ≤ n ∧ i = .int .i64 m ∧ WrE wr p h vr 0 ∧ OwnB wr base vr (bs ++ byts (ns.take m)) ∧ WStep h w1 (.slice ao0 bs.length cap0) wr vr) (fun i _ => n - (intOf i).toNat)
      case atStart => exact ⟨0, _, Nat.zero_le _, rfl, H, by simpa [byts] using hO, WStep.refl _ _ _⟩
      case round =>
        obtain ⟨m, vr, hmn, rfl, Hr, hOr, hsr⟩ := hrel
        by_cases hml : m < n
        · have HS : Hid (bs ++ byts (ns.take (m + 1)) = (bs ++ byts (ns.take m)) ++ [UInt8.ofNat (ns[m]'(by omega)).toNat]) := hid (by rw [byts_snoc _ _ (by omega), List.append_assoc])
          have hlen : (bs ++ byts (ns.take m)).length = bs.length + m := by rw [List.length_append, byts_length, List.length_take]; omega
          have hsz : base ≤ wr.heap.size := Nat.le_trans hbase hsr.1.size
          rcases hI wr hsr.1 with hI' | ⟨b, off, rfl, hc⟩
          · subst hI'; simp at hn; omega
          · have hck := hc m (by omega)
            obtain ⟨ha1, ha2⟩ := hall m (by omega)
            generalize ns[m]'(by omega) = N at hck ha1 ha2 HS
            generalize bs ++ byts (ns.take m) = xs at hOr hlen HS
            have hbv : IntKind.u8.wrap N = (((UInt8.ofNat N.toNat).toNat : Nat) : Int) := by rw [UInt8.toNat_ofNat', IntKind.wrap_u8']; omega
            generalize UInt8.ofNat N.toNat = X at hbv HS
            have Ha : WrE (wr.alloc (.cells #[.int .u8 (X.toNat : Int)] 5)) p h vr 0 := Hr.chg (Chg.alloc wr _ (fun _ => False)) id id
            obtain ⟨a0, a1, b0, b1⟩ := cells2 Ha.hh
            have ap := cell_of_one Ha.hp
            obtain ⟨d0, d1, g0, g1⟩ := cells2 Hr.hh
            have dp := cell_of_one Hr.hp
            clear hc hI c0 c1 f0 f1 cp hB0 hS0 hall
            go_wp2
            go_region_law ((refine step_app _ (by rfl) _ _ _ _ (by rfl) elem_u8 base vr _ (by rfl) (by exact (Own.alloc hOr _)) _ (by rfl) [bv X] (src_new Tryz.underlying22 wr.heap.size _ _ _ _ (by exact heap_alloc_new wr _) rfl rfl _) (by simp only [List.length_map, List.length_singleton, hlen]; unfold maxLen; omega) (by simp only [List.length_map, List.length_singleton, hlen]; omega) (by have := hsz; simp; omega) ?_; intro v2 w2 hO2 hs2; rw [show [bv X] = [X].map bv from rfl, ← List.map_append] at hO2; obtain ⟨ao2, cap2, hv2, _, _, _, _, _⟩ := Own.bs hO2; rw [List.length_append, hlen, List.length_singleton] at hv2; subst hv2; have hs3 : Step wr vr w2 _ := (((Step.refl wr vr).alloc _).drew).trans hs2; have H2 := Hr.step hOr hs3; obtain ⟨q0, q1, q2, q3⟩ := cells2 H2.hh; have qp := cell_of_one H2.hp))
            all_goals
              have R1 : WrE (w2.setCell ⟨h, 0, none⟩ (.slice ao2 (bs.length + m + 1) cap2)) p h (.slice ao2 (bs.length + m + 1) cap2) 0 := H2.set0 _
              have R2 : OwnB (w2.setCell ⟨h, 0, none⟩ (.slice ao2 (bs.length + m + 1) cap2)) base (.slice ao2 (bs.length + m + 1) cap2) (bs ++ byts (ns.take (m + 1))) := by
                rw [HS.out]; exact ownsRow_setCell_other hO2 (H2.apart hO2).2 _
              have R3 := hsr.trans ((WStep.of_step (h := h) hs3).trans (WStep.setCell h 0 w2 _ (.slice ao2 (bs.length + m + 1) cap2)))
              clear hs2 hs3 H2 q0 q1 q2 q3 qp hO2 Hr hOr hsr d0 d1 g0 g1 dp hck Ha a0 a1 b0 b1 ap hbv
              go_wp2
              go_roundw
              case rel => exact ⟨m + 1, _, by omega, by go_num, R1, R2, R3⟩
              case measure => simp [intOf]; omega
        · have HE : Hid (ns.take m = ns) := List.take_of_length_le (by omega)
          go_wp2_with fail
          refine (endCall_any p h _ 0 _ Hr).mono ?_
          rintro e w2 ⟨rfl, rfl⟩
          go_wp2
          go_ret
          rw [HE.out] at hOr
          exact ⟨vr, rfl, Hr.set1 0, ownsRow_setCell_other hOr (Hr.apart hOr).2 _, hsr.trans (WStep.setCell _ _ _ _ _)⟩

end Go.Proofs.YtfnpngbcnmglfaaGreat
namespace Go.Proofs.YtfnpngbcnmglfaaGreat
open Go.RowKit

/-- What a refused call leaves: the Writer as it was. -/
def Refused (p h : Nat) (v : Value) (code : Int) (w : World) (e : Ending) (w' : World) : Prop :=
  e = .returned (.int .i64 code) ∧ WrE w' p h v 0 ∧ Chg w w' (fun k => k = h)
theorem Refused.of {p h : Nat} {v : Value} {w : World} (H : WrE w p h v 0) (code : Int) : Refused p h v code w (.returned (.int .i64 code)) ((w.setCell ⟨h, 1, none⟩ (.int .i64 code)).setCell ⟨h, 1, none⟩ (.int .i64 0)) :=
  ⟨rfl, (H.set1 code).set1 0, (Chg.setCell w ⟨h, 1, none⟩ _).trans (Chg.setCell _ ⟨h, 1, none⟩ _) (fun _ _ e => e)⟩

theorem int_no (p h : Nat) (ao0 : Option Addr) (len cap0 : Nat) (ao : Option Addr) (n cap : Nat) (w : World) (H : WrE w p h (.slice ao0 len cap0) 0) (hl : len ≤ 1048576)
    (hroom : 1048576 - len < 8 * n) :
    Calls Tryz.prog 99 #[.pointer (some ⟨p, 0, none⟩), .slice ao n cap] w fun e w' => Refused p h (.slice ao0 len cap0) 6 w e w' :=
  (int_full p h ao0 len cap0 ao n cap w H hl hroom).mono fun e w' ⟨he, hw⟩ => by subst he; subst hw; exact Refused.of H 6

theorem texts_le (ss : List (List UInt8)) (h : ∀ j (h : j < ss.length), ss[j].length ≤ 65535) : (texts ss).length ≤ 65537 * ss.length := by
  induction ss with
  | nil => simp [texts]
  | cons s r ih =>
    have h0 := h 0 (by simp)
    have ih' := ih (fun j hj => h (j + 1) (by simp; omega))
    simp only [texts, List.flatMap_cons, List.length_append, text_length, List.length_cons, List.getElem_cons_zero] at *
    omega

set_option maxHeartbeats 2000000 in
theorem text_big (p h : Nat) (ao0 : Option Addr) (len cap0 : Nat) (ao : Option Addr) (n cap : Nat) (ss : List (List UInt8)) (w : World) (H : WrE w p h (.slice ao0 len cap0) 0) (hl : len ≤ 1048576) (hn : ss.length = n) (hm : n ≤ 8796093022208)
    (hS0 : Ss w ao ss) (J : Nat) (hJ : J < ss.length) (hJb : 65535 < ss[J].length) (hJm : ss[J].length ≤ 9223372036854775807) (hall : ∀ j (h : j < J), (ss[j]'(by omega)).length ≤ 65535) :
    Calls Tryz.prog 50 #[.pointer (some ⟨p, 0, none⟩), .slice ao n cap] w fun e w' => Refused p h (.slice ao0 len cap0) 6 w e w' := by
  have HR := Refused.of H 6
  have H6 := H.set1 6
  obtain ⟨d0, d1, g0, g1⟩ := cells2 H6.hh
  have dp := cell_of_one H6.hp
  obtain ⟨c0, c1, f0, f1⟩ := cells2 H.hh
  have cp := cell_of_one H.hp
  obtain ⟨b, off, rfl, hc⟩ : ∃ b off, ao = some ⟨b, off, none⟩ ∧ ∀ j (h : j < ss.length), w.cell? ⟨b, off + j, none⟩ = some (.string ⟨ss[j].toArray⟩) := by
    rcases hS0 with rfl | h
    · simp at hJ
    · exact h
  go_enter Tryz.func50, Tryz.ntmps50
  go_wp2_with fail
  refine (made_any p h _ 0 w H).mono ?_
  rintro e w1 ⟨rfl, hw⟩
  subst hw
  go_wp2
  go_loop [5, 15] (fun sz i => ∃ k : Nat, k ≤ J ∧ i = .int .i64 k ∧ sz = .int .i64 ((texts (ss.take k)).length : Nat)) (fun _ i => n - (intOf i).toNat)
  case atStart => exact ⟨0, Nat.zero_le _, rfl, rfl⟩
  case round =>
    obtain ⟨k, hk, rfl, rfl⟩ := hrel
    have hck := hc k (by omega)
    have htk : (texts (ss.take k)).length ≤ 65537 * n := by
      have := texts_le (ss.take k) (fun j hj => by
        have hj' : j < k := by simp at hj; omega
        rw [List.getElem_take]; exact hall j (by omega))
      simp only [List.length_take] at this
      omega
    have hlt : k < n := by omega
    by_cases hkJ : k < J
    · have hak := hall k hkJ
      have HS : Hid ((texts (ss.take (k + 1))).length = (texts (ss.take k)).length + (2 + (ss[k]'(by omega)).length)) := hid (by rw [texts_snoc _ _ (by omega), List.length_append, text_length])
      generalize ss[k]'(by omega) = s at hck hak HS
      generalize (texts (ss.take k)).length = T at htk HS
      clear hc hall
      go_wp2
      go_round
      case rel => exact ⟨k + 1, by omega, by go_num, by rw [HS.out]; go_num⟩
      case measure => simp [intOf]; omega
    · obtain rfl : k = J := by omega
      generalize ss[k]'hJ = s at hck hJb hJm
      generalize (texts (ss.take k)).length = T at htk
      clear hc hall
      by_cases hT : T ≤ 1048576 - len
      · go_wp2_with (first
          | (go_at_call 94; refine (fail_any p h _ 0 6 _ H).mono ?_; rintro e w' ⟨rfl, hw⟩; rw [if_pos rfl] at hw; subst hw)
          | (go_at_call 95; refine (needRoom_ok p h ao0 len cap0 6 _ 1 _ H6 hl (by decide) (by decide) (by omega)).mono ?_; rintro e w' ⟨rfl, hw⟩; rw [hw]; clear hw)
          | (go_at_call 96; refine (endCall_any p h _ 6 _ H6).mono ?_; rintro e w' ⟨rfl, hw⟩; subst hw))
        go_ret
        exact HR
      · go_wp2_with (first
          | (go_at_call 94; refine (fail_any p h _ 0 6 _ H).mono ?_; rintro e w' ⟨rfl, hw⟩; rw [if_pos rfl] at hw; subst hw)
          | (go_at_call 95; refine (needRoom_no p h ao0 len cap0 6 _ 1 _ H6 hl (by decide) (by decide) (by omega)).mono ?_; rintro e w' ⟨rfl, hw⟩; rw [if_neg (by decide)] at hw; rw [hw]; clear hw)
          | (go_at_call 96; refine (endCall_any p h _ 6 _ H6).mono ?_; rintro e w' ⟨rfl, hw⟩; subst hw))
        go_ret
        exact HR

set_option maxHeartbeats 2000000 in
theorem text_full (p h : Nat) (ao0 : Option Addr) (len cap0 : Nat) (ao : Option Addr) (n cap : Nat) (ss : List (List UInt8)) (w : World) (H : WrE w p h (.slice ao0 len cap0) 0) (hl : len ≤ 1048576) (hn : ss.length = n) (hm : n ≤ 8796093022208)
    (hS0 : Ss w ao ss) (hall : ∀ j (h : j < ss.length), ss[j].length ≤ 65535) (hroom : 1048576 - len < (texts ss).length) :
    Calls Tryz.prog 50 #[.pointer (some ⟨p, 0, none⟩), .slice ao n cap] w fun e w' => Refused p h (.slice ao0 len cap0) 6 w e w' := by
  have HR := Refused.of H 6
  have H6 := H.set1 6
  obtain ⟨d0, d1, g0, g1⟩ := cells2 H6.hh
  have dp := cell_of_one H6.hp
  go_enter Tryz.func50, Tryz.ntmps50
  go_wp2_with fail
  refine (made_any p h _ 0 w H).mono ?_
  rintro e w1 ⟨rfl, hw⟩
  subst hw
  go_wp2
  go_loop [5, 15] (fun sz i => ∃ k : Nat, k ≤ n ∧ i = .int .i64 k ∧ sz = .int .i64 ((texts (ss.take k)).length : Nat)) (fun _ i => n - (intOf i).toNat)
  case atStart => exact ⟨0, Nat.zero_le _, rfl, rfl⟩
  case round =>
    obtain ⟨k, hk, rfl, rfl⟩ := hrel
    have htk : (texts (ss.take k)).length ≤ 65537 * n := by
      have := texts_le ss hall
      have := texts_take_le ss k
      omega
    by_cases hlt : k < n
    · rcases hS0 with hS0 | ⟨b, off, rfl, hc⟩
      · subst hS0; simp at hn; omega
      · have hck := hc k (by omega)
        have hak := hall k (by omega)
        have HS : Hid ((texts (ss.take (k + 1))).length = (texts (ss.take k)).length + (2 + (ss[k]'(by omega)).length)) := hid (by rw [texts_snoc _ _ (by omega), List.length_append, text_length])
        generalize ss[k]'(by omega) = s at hck hak HS
        generalize (texts (ss.take k)).length = T at htk HS
        clear hc hall
        go_wp2
        go_round
        case rel => exact ⟨k + 1, by omega, by go_num, by rw [HS.out]; go_num⟩
        case measure => simp [intOf]; omega
    · have e : ss.take k = ss := List.take_of_length_le (by omega)
      rw [e] at htk ⊢
      generalize (texts ss).length = T at htk hroom
      clear hall e
      go_wp2_with (first
        | (go_at_call 95; refine (needRoom_no p h ao0 len cap0 0 _ 1 _ H hl (by decide) (by decide) (by omega)).mono ?_; rintro e w' ⟨rfl, hw⟩; rw [if_pos rfl] at hw; subst hw)
        | (go_at_call 96; refine (endCall_any p h _ 6 _ H6).mono ?_; rintro e w' ⟨rfl, hw⟩; subst hw))
      go_ret
      exact HR

set_option maxHeartbeats 2000000 in
theorem byte_full (p h : Nat) (ao0 : Option Addr) (len cap0 : Nat) (ao : Option Addr) (n cap : Nat) (ns : List Int) (w : World) (H : WrE w p h (.slice ao0 len cap0) 0) (hl : len ≤ 1048576) (hn : ns.length = n) (hm : n ≤ 140737488355328)
    (hS0 : Is w ao ns) (hall : ∀ j (h : j < ns.length), 0 ≤ ns[j] ∧ ns[j] ≤ 255) (hroom : 1048576 - len < n) :
    Calls Tryz.prog 49 #[.pointer (some ⟨p, 0, none⟩), .slice ao n cap] w fun e w' => Refused p h (.slice ao0 len cap0) 6 w e w' := by
  have HR := Refused.of H 6
  have H6 := H.set1 6
  obtain ⟨d0, d1, g0, g1⟩ := cells2 H6.hh
  have dp := cell_of_one H6.hp
  go_enter Tryz.func49, Tryz.ntmps49
  go_wp2_with fail
  refine (made_any p h _ 0 w H).mono ?_
  rintro e w1 ⟨rfl, hw⟩
  subst hw
  go_wp2
  go_loop [14] (fun i => ∃ k : Nat, k ≤ n ∧ i = .int .i64 k) (fun i => n - (intOf i).toNat)
  case atStart => exact ⟨0, Nat.zero_le _, rfl⟩
  case round =>
    obtain ⟨k, hk, rfl⟩ := hrel
    by_cases hlt : k < n
    · rcases hS0 with hS0 | ⟨b, off, rfl, hc⟩
      · subst hS0; simp at hn; omega
      · have hck := hc k (by omega)
        obtain ⟨ha1, ha2⟩ := hall k (by omega)
        generalize ns[k]'(by omega) = N at hck ha1 ha2
        have d1 : decide (N < 0) = false := by simp; omega
        have d2 : decide (255 < N) = false := by simp; omega
        clear hc
        go_wp2
        go_round
        case rel => exact ⟨k + 1, by omega, by go_num⟩
        case measure => simp [intOf]; omega
    · go_wp2_with (first
        | (go_at_call 95; refine (needRoom_no p h ao0 len cap0 0 _ 1 _ H hl (by decide) (by decide) (by omega)).mono ?_; rintro e w' ⟨rfl, hw⟩; rw [if_pos rfl] at hw; subst hw)
        | (go_at_call 96; refine (endCall_any p h _ 6 _ H6).mono ?_; rintro e w' ⟨rfl, hw⟩; subst hw))
      go_ret
      exact HR

/-- One number, one text. -/
theorem byte_one (p h base B : Nat) (v : Value) (bs : List UInt8) (x : UInt8) (w : World) (hB : w.heap.size = B) (H : WrE w p h v 0) (hO : OwnB w base v bs) (hbase : base ≤ w.heap.size) (hroom : bs.length + 1 ≤ 1048576) :
    Calls Tryz.prog 49 #[.pointer (some ⟨p, 0, none⟩), .slice (some ⟨B, 0, none⟩) 1 1] (w.alloc (.cells #[.int .i64 (x.toNat : Int)] 3)) fun e w' => ∃ v', e = .returned (.int .i64 0) ∧ WrE w' p h v' 0 ∧ OwnB w' base v' (bs ++ [x]) ∧ WStep h w v w' v' := by
  subst hB
  have hnew : ¬ WSet h v w.heap.size := fun e => by
    rcases e with e | e
    · have := lt_of_block H.hh; omega
    · have := (hO.lt _ e).2; omega
  have hx := x.toNat_lt
  refine (byte_ok p h base v bs (some ⟨w.heap.size, 0, none⟩) 1 1 [(x.toNat : Int)] _ (H.chg (Chg.alloc w _ (fun _ => False)) id id) (Own.alloc hO _) (by simp; omega) (by omega) rfl (by decide) (fun w' hc => .inr ⟨w.heap.size, 0, rfl, fun j hj => ?_⟩) (fun j hj => ?_) (by omega)).mono ?_
  · obtain rfl : j = 0 := by simp at hj; omega
    exact hc.cell (new_cell w _ _ 0 _ rfl) hnew
  · obtain rfl : j = 0 := by simp at hj; omega
    simp only [List.getElem_cons_zero]; omega
  · rintro e w' ⟨v', rfl, H', hO', hs⟩
    refine ⟨v', rfl, H', ?_, (WStep.alloc h w v _).trans hs⟩
    have e : byts [(x.toNat : Int)] = [x] := by simp [byts]
    rw [← e]; exact hO'

end Go.Proofs.YtfnpngbcnmglfaaGreat
namespace Go.Proofs.YtfnpngbcnmglfaaGreat
open Go.RowKit
/-- The Writer that was made at w: at the two blocks behind w. -/
structure MineW (w wr : World) (vr : Value) (bs : List UInt8) : Prop where
  H : WrE wr (w.heap.size + 1) w.heap.size vr 0
  hO : OwnB wr (w.heap.size + 2) vr bs
  hb : Below w.heap.size w wr
  hz : w.heap.size + 2 ≤ wr.heap.size
theorem MineW.step {w wr w2 : World} {vr v2 : Value} {bs bs2 : List UInt8} (M : MineW w wr vr bs) (H : WrE w2 (w.heap.size + 1) w.heap.size v2 0) (hO : OwnB w2 (w.heap.size + 2) v2 bs2) (hs : WStep w.heap.size wr vr w2 v2) : MineW w w2 v2 bs2 :=
  ⟨H, hO, M.hb.trans (hs.below (by have := M.hz; omega) (Nat.le_refl _) (fun k e => by have := (M.hO.lt k e).1; omega)), Nat.le_trans M.hz hs.1.size⟩
/-- A block that the Writer does not touch. -/
structure Kept (w0 wr : World) (vr : Value) (k : Nat) (o : Obj) : Prop where
  there : wr.heap[k]? = some o
  off : k ≠ w0.heap.size ∧ vr.ownBlock ≠ some k
theorem Kept.step {w0 wr w2 : World} {vr v2 : Value} {k : Nat} {o : Obj} (K : Kept w0 wr vr k o) (hs : WStep w0.heap.size wr vr w2 v2) : Kept w0 w2 v2 k o := by
  have hlt := (Array.getElem?_eq_some_iff.1 K.there).1
  refine ⟨?_, K.off.1, ?_⟩
  · rw [hs.1.block k hlt (fun e => e.elim K.off.1 K.off.2)]; exact K.there
  · rcases hs.2 with e | ⟨g, e, hg⟩
    · rw [e]; exact K.off.2
    · rw [e]; intro h; cases h; omega
theorem MineW.chg {w0 w3 w' : World} {v3 : Value} {bs : List UInt8} (M : MineW w0 w3 v3 bs) (hc : Chg w3 w' (WSet w0.heap.size v3)) : Below w0.heap.size w0 w' :=
  M.hb.trans (hc.below (by have := M.hz; omega) (fun i h => by
    rcases h with h | h
    · omega
    · have := (M.hO.lt i h).1; omega))
/-- What is written: the bytes, and what a call that answers r leaves. -/
def WroteW (w0 : World) (bs : List UInt8) (r : Value) (w : World) (v : Value) (e : Ending) (w' : World) : Prop := ∃ v', e = .returned r ∧ MineW w0 w' v' bs ∧ WStep w0.heap.size w v w' v'
theorem byteW (w0 W : World) (v : Value) (bs : List UInt8) (M : MineW w0 W v bs) (B n : Nat) (hB : W.heap.size = B) (hn : n ≤ 255) (hroom : bs.length + 1 ≤ 1048576) : Calls Tryz.prog 49 #[.pointer (some ⟨w0.heap.size + 1, 0, none⟩), .slice (some ⟨B, 0, none⟩) 1 1] (W.alloc (.cells #[.int .i64 (n : Int)] 3)) (WroteW w0 (bs ++ [UInt8.ofNat n]) (.int .i64 0) W v) := by
  have e : (n : Int) = ((UInt8.ofNat n).toNat : Nat) := by rw [UInt8.toNat_ofNat']; omega
  rw [e]
  refine (byte_one _ _ _ _ v bs _ W hB M.H M.hO M.hz hroom).mono ?_
  rintro e w3 ⟨v3, rfl, H3, hO3, hs3⟩
  exact ⟨v3, rfl, M.step H3 hO3 hs3, hs3⟩
theorem bytesW (w0 W : World) (v : Value) (bs : List UInt8) (M : MineW w0 W v bs) (a : Option Addr) (c n : Nat) (ns : List Int) (hn : ns.length = n) (hN : NsAt w0.cell? a ns) (hall : ∀ x ∈ ns, 0 ≤ x ∧ x ≤ 255) (hroom : bs.length + n ≤ 1048576) : Calls Tryz.prog 49 #[.pointer (some ⟨w0.heap.size + 1, 0, none⟩), .slice a n c] W (WroteW w0 (bs ++ byts ns) (.int .i64 0) W v) := by
  refine (byte_ok _ _ _ v bs a n c ns W M.H M.hO M.hz (by omega) hn (by omega) (fun w' hc => hN.keep (below_keep (M.chg hc))) (fun j h => hall _ (by simp)) (by omega)).mono ?_
  rintro e w3 ⟨v3, rfl, H3, hO3, hs3⟩
  exact ⟨v3, rfl, M.step H3 hO3 hs3, hs3⟩
def lens (X : List (List Int)) : List UInt8 := X.flatMap fun l => [UInt8.ofNat l.length] ++ byts l
theorem lens_snoc (X : List (List Int)) (k : Nat) (h : k < X.length) : lens (X.take (k + 1)) = lens (X.take k) ++ ([UInt8.ofNat X[k].length] ++ byts X[k]) := by
  unfold lens
  rw [List.take_add_one, List.getElem?_eq_getElem h]
  show List.flatMap _ (X.take k ++ [X[k]]) = _
  rw [List.flatMap_append, List.flatMap_cons, List.flatMap_nil, List.append_nil]
theorem lens_take_le (X : List (List Int)) (k : Nat) : (lens (X.take k)).length ≤ (lens X).length := by
  have : lens X = lens (X.take k) ++ lens (X.drop k) := by
    unfold lens
    rw [← List.flatMap_append, List.take_append_drop]
  rw [this, List.length_append]
  omega
set_option maxRecDepth 100000 in
set_option maxHeartbeats 1000000 in
theorem wlists_any (w0 : World) (v : Value) (bs : List UInt8) (w : World) (M : MineW w0 w v bs) (g n : Nat) (X : List (List Int)) (Vs : Array Value) (hX : X.length = n) (hn : n ≤ 1000) (K : Kept w0 w v g (.cells Vs 28 (0, 0))) (hV : ∀ k (h : k < X.length), ∃ a c, Vs[k]? = some (.slice a X[k].length c) ∧ NsAt w0.cell? a X[k]) (hall : ∀ l ∈ X, l.length ≤ 255 ∧ ∀ x ∈ l, 0 ≤ x ∧ x ≤ 255) (hroom : bs.length + (lens X).length ≤ 1048576) : Calls Tryz.prog 51 #[.agg #[.pointer (some ⟨w0.heap.size + 1, 0, none⟩)], .slice (some ⟨g, 0, none⟩) n n] w (WroteW w0 (bs ++ lens X) (.tuple #[]) w v) := by
  have KB : Kept w0 (w.alloc (.cells #[.pointer (some ⟨w0.heap.size + 1, 0, none⟩)] 95)) v w.heap.size (.cells #[.pointer (some ⟨w0.heap.size + 1, 0, none⟩)] 95 (0, 0)) := ⟨heap_alloc_new w _, by have := M.hz; omega, fun e => by have := (M.hO.lt _ e).2; omega⟩
  have S1 := WStep.alloc w0.heap.size w v (.cells #[.pointer (some ⟨w0.heap.size + 1, 0, none⟩)] 95)
  have M1 : MineW w0 (w.alloc (.cells #[.pointer (some ⟨w0.heap.size + 1, 0, none⟩)] 95)) v bs := M.step (M.H.chg (Chg.alloc _ _ (fun _ => False)) id id) (Own.chg M.hO (Chg.alloc _ _ (fun _ => False)) (fun _ _ => id)) S1
  have K1 := K.step S1
  generalize hB : w.heap.size = B at KB
  obtain ⟨W1, hW1⟩ : ∃ W1, W1 = w.alloc (.cells #[.pointer (some ⟨w0.heap.size + 1, 0, none⟩)] 95) := ⟨_, rfl⟩
  rw [← hW1] at KB S1 M1 K1
  go_enter Tryz.func51, Tryz.ntmps51
  go_wp2_with fail
  rw [← hW1]
  clear hW1 hB K M
  go_loopw [8] (fun i wr => ∃ (k : Nat) (vr : Value), k ≤ n ∧ i = .int .i64 k ∧ MineW w0 wr vr (bs ++ lens (X.take k)) ∧ Kept w0 wr vr g (.cells Vs 28 (0, 0)) ∧ Kept w0 wr vr B (.cells #[.pointer (some ⟨w0.heap.size + 1, 0, none⟩)] 95 (0, 0)) ∧ WStep w0.heap.size w v wr vr) (fun i _ => n - (intOf i).toNat)
  case atStart => exact ⟨0, v, Nat.zero_le _, rfl, by simpa [lens] using M1, K1, KB, S1⟩
  case round =>
    obtain ⟨k, vr, hk, rfl, Mr, Kr, Kb, Sr⟩ := hrel
    have b0 : wr.cell? ⟨B, 0, none⟩ = some (.pointer (some ⟨w0.heap.size + 1, 0, none⟩)) := by rw [Lib.cell_of_heap Kb.there]; rfl
    by_cases hlt : k < n
    · have kl : k < X.length := by omega
      obtain ⟨a, c, hv, hN⟩ := hV k kl
      have c0 : wr.cell? ⟨g, k, none⟩ = some (.slice a X[k].length c) := by rw [Lib.cell_of_heap Kr.there]; exact hv
      obtain ⟨hl, hx⟩ := hall X[k] (by simp)
      have HS := hid (lens_snoc X k kl)
      have hle := lens_take_le X (k + 1)
      rw [HS.out] at hle
      simp only [List.length_append, byts_length, List.length_cons, List.length_nil] at hle
      generalize X[k] = l at hv hN c0 hl hx HS hle
      obtain ⟨m, hm⟩ : ∃ m, m = l.length := ⟨_, rfl⟩
      have hBy := byteW w0 wr vr _ Mr wr.heap.size l.length rfl hl (by simp only [List.length_append]; omega)
      have hB2 : ∀ W v, MineW w0 W v (bs ++ lens (X.take k) ++ [UInt8.ofNat l.length]) → Calls Tryz.prog 49 #[.pointer (some ⟨w0.heap.size + 1, 0, none⟩), .slice a l.length c] W (WroteW w0 (bs ++ lens (X.take k) ++ [UInt8.ofNat l.length] ++ byts l) (.int .i64 0) W v) := fun W v M => bytesW w0 W v _ M a c l.length l rfl hN hx (by simp only [List.length_append, List.length_cons, List.length_nil]; omega)
      have HT : Hid (bs ++ lens (X.take k) ++ [UInt8.ofNat l.length] ++ byts l = bs ++ lens (X.take (k + 1))) := hid (by rw [HS.out]; simp only [List.append_assoc])
      clear HS hV hall hv hN hx
      rw [← hm] at c0 hBy hB2 HT hl hle
      clear hm
      go_wp2_with (go_at_call 49; first | (refine hBy.mono ?_; rintro e w3 ⟨v3, rfl, M3, hs3⟩; clear hBy; have K3 := Kr.step hs3; have Kb3 := Kb.step hs3; have S3 := Sr.trans hs3; have b3 : w3.cell? ⟨B, 0, none⟩ = some (.pointer (some ⟨w0.heap.size + 1, 0, none⟩)) := (by rw [Lib.cell_of_heap Kb3.there]; rfl); have hC := hB2 w3 v3 M3; clear hB2) | (refine hC.mono ?_; rintro e w4 ⟨v4, rfl, M4, hs4⟩; clear hC))
      rw [HT.out] at M4
      exact ⟨⟨k + 1, v4, by omega, by go_num, M4, K3.step hs4, Kb3.step hs4, S3.trans hs4⟩, by simp [intOf]; omega⟩
    · have htk : X.take k = X := List.take_of_length_le (by omega)
      rw [htk] at Mr
      go_wp2_with fail
      go_end0
      exact ⟨vr, rfl, Mr, Sr⟩
end Go.Proofs.YtfnpngbcnmglfaaGreat
namespace Go.Proofs.YtfnpngbcnmglfaaGreat
open Go.RowKit
theorem MineW.alloc {w0 w : World} {v : Value} {bs : List UInt8} (M : MineW w0 w v bs) (o : Obj) : MineW w0 (w.alloc o) v bs := M.step (M.H.chg (Chg.alloc _ _ (fun _ => False)) id id) (Own.chg M.hO (Chg.alloc _ _ (fun _ => False)) (fun _ _ => id)) (WStep.alloc _ _ _ _)
theorem MineW.kept {w0 w : World} {v : Value} {bs : List UInt8} (M : MineW w0 w v bs) (cs : Array Value) (t : TypeId) : Kept w0 (w.alloc (.cells cs t)) v w.heap.size (.cells cs t (0, 0)) := ⟨heap_alloc_new w _, by have := M.hz; omega, fun e => by have := (M.hO.lt _ e).2; omega⟩
theorem bytes2W (w0 W : World) (v : Value) (bs : List UInt8) (M : MineW w0 W v bs) (B : Nat) (hB : W.heap.size = B) (x y : Int) (hx : 0 ≤ x ∧ x ≤ 255) (hy : 0 ≤ y ∧ y ≤ 255) (hroom : bs.length + 2 ≤ 1048576) : Calls Tryz.prog 49 #[.pointer (some ⟨w0.heap.size + 1, 0, none⟩), .slice (some ⟨B, 0, none⟩) 2 2] (W.alloc (.cells #[.int .i64 x, .int .i64 y] 3)) (WroteW w0 (bs ++ byts [x, y]) (.int .i64 0) W v) := by
  subst hB
  have M1 := M.alloc (.cells #[.int .i64 x, .int .i64 y] 3)
  have K1 := M.kept #[.int .i64 x, .int .i64 y] 3
  refine (byte_ok _ _ _ v bs _ 2 2 [x, y] _ M1.H M1.hO M1.hz (by omega) rfl (by omega) (fun w' hc => .inr ⟨W.heap.size, 0, rfl, fun j hj => ?_⟩) (fun j h => ?_) (by omega)).mono ?_
  · have hn : ¬ WSet w0.heap.size v W.heap.size := fun e => e.elim K1.off.1 K1.off.2
    match j, hj with
    | 0, _ => exact hc.cell (by rw [Lib.cell_of_heap K1.there]; rfl) hn
    | 1, _ => exact hc.cell (by rw [Lib.cell_of_heap K1.there]; rfl) hn
  · match j, h with
    | 0, _ => exact hx
    | 1, _ => exact hy
  rintro e w3 ⟨v3, rfl, H3, hO3, hs3⟩
  have hs := (WStep.alloc w0.heap.size W v (.cells #[.int .i64 x, .int .i64 y] 3)).trans hs3
  exact ⟨v3, rfl, M.step H3 hO3 hs, hs⟩
theorem intW (w0 W : World) (v : Value) (bs : List UInt8) (M : MineW w0 W v bs) (B : Nat) (x : Int) (hB : W.heap.size = B) (hroom : bs.length + 8 ≤ 1048576) : Calls Tryz.prog 99 #[.pointer (some ⟨w0.heap.size + 1, 0, none⟩), .slice (some ⟨B, 0, none⟩) 1 1] (W.alloc (.cells #[.int .i64 x] 3)) (WroteW w0 (bs ++ be64 x) (.int .i64 0) W v) := by
  refine (int_one _ _ _ _ v bs x W hB M.H M.hO M.hz hroom).mono ?_
  rintro e w3 ⟨v3, rfl, H3, hO3, hs3⟩
  exact ⟨v3, rfl, M.step H3 hO3 hs3, hs3⟩
theorem and255 (n : Nat) (h : n ≤ 256) : bits BinOp.and IntKind.i64 (n : Int) 255 = ((n % 256 : Nat) : Int) := by
  have : ∀ k : Fin 257, bits BinOp.and IntKind.i64 ((k.val : Nat) : Int) 255 = ((k.val % 256 : Nat) : Int) := by decide +kernel
  exact this ⟨n, by omega⟩
/-- The bytes of an instruction that may be; of a list of them. -/
def insB (x : Int × Int) : List UInt8 := [UInt8.ofNat x.1.toNat] ++ (if takesN x.1 = 0 then [] else if takesN x.1 = 1 then be64 x.2 else [UInt8.ofNat x.2.toNat])
def codeB (is : List (Int × Int)) : List UInt8 := byts [(is.length / 256 : Nat), (is.length % 256 : Nat)] ++ is.flatMap insB
theorem insB_len (x : Int × Int) : (insB x).length ≤ 9 := by
  unfold insB
  split
  · simp
  · split
    · simp [be64, be_length]
    · simp
theorem insB_flat (is : List (Int × Int)) : (is.flatMap insB).length ≤ 9 * is.length := by
  induction is with
  | nil => simp
  | cons x r ih =>
    have := insB_len x
    simp only [List.flatMap_cons, List.length_append, List.length_cons]
    omega
set_option maxRecDepth 100000 in
set_option maxHeartbeats 1000000 in
theorem wcode_any (w0 : World) (v : Value) (bs : List UInt8) (w : World) (M : MineW w0 w v bs) (a : Option Addr) (n c : Nat) (is : List (Int × Int)) (hi : is.length = n) (hN : IsAt w0.cell? a is) (hn : n ≤ 256) (hroom : bs.length + 3000 ≤ 1048576) (hall : ∀ x ∈ is, 0 ≤ x.1 ∧ x.1 ≤ 255 ∧ (takesN x.1 = 0 ∨ takesN x.1 = 1 ∨ 0 ≤ x.2 ∧ x.2 ≤ 255)) : Calls Tryz.prog 52 #[.agg #[.pointer (some ⟨w0.heap.size + 1, 0, none⟩)], .slice a n c] w (WroteW w0 (bs ++ codeB is) (.tuple #[]) w v) := by
  have KB := M.kept #[.pointer (some ⟨w0.heap.size + 1, 0, none⟩)] 95
  have S1 := WStep.alloc w0.heap.size w v (.cells #[.pointer (some ⟨w0.heap.size + 1, 0, none⟩)] 95)
  have M1 := M.alloc (.cells #[.pointer (some ⟨w0.heap.size + 1, 0, none⟩)] 95)
  have hsz : (w.alloc (.cells #[.pointer (some ⟨w0.heap.size + 1, 0, none⟩)] 95)).heap.size = w.heap.size + 1 := by simp
  have h2 := bytes2W w0 _ v bs M1 _ hsz ((n / 256 : Nat) : Int) ((n % 256 : Nat) : Int) (by omega) (by omega) (by omega)
  rw [← and255 n hn, show ((n / 256 : Nat) : Int) = (n : Int) / 256 from by omega] at h2
  go_enter Tryz.func52, Tryz.ntmps52
  go_wp2_with fail
  refine h2.mono ?_
  rintro e w3 ⟨v3, rfl, M3, hs3⟩
  clear h2
  rw [and255 n hn, show (n : Int) / 256 = ((n / 256 : Nat) : Int) from by omega] at M3
  have K3 := KB.step hs3
  have S3 := S1.trans hs3
  clear KB M1 hs3 S1 hsz M
  go_wp2_with fail
  have hhd : (byts [((n / 256 : Nat) : Int), ((n % 256 : Nat) : Int)]).length = 2 := rfl
  have HC : Hid (codeB is = byts [((n / 256 : Nat) : Int), ((n % 256 : Nat) : Int)] ++ is.flatMap insB) := hid (by rw [codeB, hi])
  generalize byts [((n / 256 : Nat) : Int), ((n % 256 : Nat) : Int)] = hd at M3 hhd HC
  generalize w.heap.size = B at K3
  have hTk := takes_all
  go_loopw [18] (fun i wr => ∃ (k : Nat) (vr : Value), k ≤ n ∧ i = .int .i64 k ∧ MineW w0 wr vr (bs ++ hd ++ (is.take k).flatMap insB) ∧ Kept w0 wr vr B (.cells #[.pointer (some ⟨w0.heap.size + 1, 0, none⟩)] 95 (0, 0)) ∧ WStep w0.heap.size w v wr vr) (fun i _ => n - (intOf i).toNat)
  case atStart => exact ⟨0, v3, Nat.zero_le _, rfl, by simpa using M3, K3, S3⟩
  case round =>
    obtain ⟨k, vr, hk, rfl, Mr, Kb, Sr⟩ := hrel
    by_cases hlt : k < n
    · rcases hN.keep (below_keep Mr.hb) with h0 | ⟨b0, off0, rfl, hc0⟩
      · subst h0; simp at hi; omega
      have kl : k < is.length := by omega
      obtain ⟨c0, c1⟩ := hc0 k kl
      obtain ⟨hx0, hx1, hx2⟩ := hall is[k] (by simp)
      have hlen := insB_flat (is.take k)
      rw [List.length_take] at hlen
      have HS : Hid ((is.take (k + 1)).flatMap insB = (is.take k).flatMap insB ++ insB is[k]) := hid (by rw [List.take_add_one, List.getElem?_eq_getElem kl]; show List.flatMap insB (is.take k ++ [is[k]]) = _; rw [List.flatMap_append, List.flatMap_cons, List.flatMap_nil, List.append_nil])
      generalize is[k] = x at c0 c1 hx0 hx1 hx2 HS
      obtain ⟨xo, xa⟩ := x
      simp only at c0 c1 hx0 hx1 hx2
      have HI : Hid (insB (xo, xa) = [UInt8.ofNat xo.toNat] ++ (if takesN xo = 0 then [] else if takesN xo = 1 then be64 xa else [UInt8.ofNat xa.toNat])) := hid rfl
      generalize (is.take k).flatMap insB = xs at Mr HS hlen
      obtain ⟨W4, hW4⟩ : ∃ W4, W4 = wr.alloc (.cells #[.int .i64 xo, .int .i64 xa] 83) := ⟨_, rfl⟩
      have M4 := Mr.alloc (.cells #[.int .i64 xo, .int .i64 xa] 83)
      have Kx := Mr.kept #[.int .i64 xo, .int .i64 xa] 83
      have st := WStep.alloc w0.heap.size wr vr (.cells #[.int .i64 xo, .int .i64 xa] 83)
      rw [← hW4] at M4 Kx st
      have Kb4 := Kb.step st
      have S4 := Sr.trans st
      have b4 : W4.cell? ⟨B, 0, none⟩ = some (.pointer (some ⟨w0.heap.size + 1, 0, none⟩)) := by rw [Lib.cell_of_heap Kb4.there]; rfl
      have x4 : W4.cell? ⟨wr.heap.size, 0, none⟩ = some (.int .i64 xo) := by rw [Lib.cell_of_heap Kx.there]; rfl
      have hBy := byteW w0 W4 vr _ M4 W4.heap.size xo.toNat rfl (by omega) (by simp only [List.length_append]; omega)
      rw [Int.toNat_of_nonneg hx0] at hBy
      clear hc0 hall st Kb
      have hTk := hTk xo
      by_cases h0 : takesN xo = 0
      · have HT : Hid (bs ++ hd ++ (is.take (k + 1)).flatMap insB = bs ++ hd ++ xs ++ [UInt8.ofNat xo.toNat]) := hid (by rw [HS.out, HI.out, if_pos h0]; simp only [List.append_assoc, List.append_nil])
        rw [h0] at hTk
        clear HS HI hx2 h0
        go_upto_region 5 with fail
        rw [← hW4]
        clear hW4
        go_wp2_with (first | (go_at_call 49; first | (refine hBy.mono ?_; rintro e w5 ⟨v5, rfl, M5, hs5⟩; clear hBy; have Kb5 := Kb4.step hs5; have Kx5 := Kx.step hs5; have S5 := S4.trans hs5; have b5 : w5.cell? ⟨B, 0, none⟩ = some (.pointer (some ⟨w0.heap.size + 1, 0, none⟩)) := (by rw [Lib.cell_of_heap Kb5.there]; rfl); have x5 : w5.cell? ⟨wr.heap.size, 0, none⟩ = some (.int .i64 xo) := (by rw [Lib.cell_of_heap Kx5.there]; rfl); have y5 : w5.cell? ⟨wr.heap.size, 1, none⟩ = some (.int .i64 xa) := (by rw [Lib.cell_of_heap Kx5.there]; rfl); clear Kx5)) | (go_at_call 98; refine (hTk _).mono ?_; rintro e w' ⟨rfl, hw'⟩; replace hw' := hw'.symm; subst hw'))
        exact ⟨⟨k + 1, v5, by omega, by go_num, by rw [HT.out]; exact M5, Kb5, S5⟩, by simp [intOf]; omega⟩
      · by_cases h1 : takesN xo = 1
        · have HT : Hid (bs ++ hd ++ (is.take (k + 1)).flatMap insB = bs ++ hd ++ xs ++ [UInt8.ofNat xo.toNat] ++ be64 xa) := hid (by rw [HS.out, HI.out, if_neg h0, if_pos h1]; simp only [List.append_assoc])
          rw [h1] at hTk
          clear HS HI hx2 h0 h1
          have hI2' : ∀ W v, MineW w0 W v (bs ++ hd ++ xs ++ [UInt8.ofNat xo.toNat]) → Calls Tryz.prog 99 #[.pointer (some ⟨w0.heap.size + 1, 0, none⟩), .slice (some ⟨W.heap.size, 0, none⟩) 1 1] (W.alloc (.cells #[.int .i64 xa] 3)) (WroteW w0 (bs ++ hd ++ xs ++ [UInt8.ofNat xo.toNat] ++ be64 xa) (.int .i64 0) W v) := fun W v M => intW w0 W v _ M _ xa rfl (by simp only [List.length_append, List.length_cons, List.length_nil]; omega)
          go_upto_region 5 with fail
          rw [← hW4]
          clear hW4
          go_wp2_with (first | (go_at_call 49; first | (refine hBy.mono ?_; rintro e w5 ⟨v5, rfl, M5, hs5⟩; clear hBy; have Kb5 := Kb4.step hs5; have Kx5 := Kx.step hs5; have S5 := S4.trans hs5; have b5 : w5.cell? ⟨B, 0, none⟩ = some (.pointer (some ⟨w0.heap.size + 1, 0, none⟩)) := (by rw [Lib.cell_of_heap Kb5.there]; rfl); have x5 : w5.cell? ⟨wr.heap.size, 0, none⟩ = some (.int .i64 xo) := (by rw [Lib.cell_of_heap Kx5.there]; rfl); have y5 : w5.cell? ⟨wr.heap.size, 1, none⟩ = some (.int .i64 xa) := (by rw [Lib.cell_of_heap Kx5.there]; rfl); have hI2 := hI2' w5 v5 M5; clear Kx5)) | (go_at_call 98; refine (hTk _).mono ?_; rintro e w' ⟨rfl, hw'⟩; replace hw' := hw'.symm; subst hw') | (go_at_call 99; refine hI2.mono ?_; rintro e w6 ⟨v6, rfl, M6, hs6⟩; clear hI2))
          exact ⟨⟨k + 1, v6, by omega, by go_num, by rw [HT.out]; exact M6, (Kb5.step hs6), (S5.trans hs6)⟩, by simp [intOf]; omega⟩
        · have HT : Hid (bs ++ hd ++ (is.take (k + 1)).flatMap insB = bs ++ hd ++ xs ++ [UInt8.ofNat xo.toNat] ++ [UInt8.ofNat xa.toNat]) := hid (by rw [HS.out, HI.out, if_neg h0, if_neg h1]; simp only [List.append_assoc])
          have hxa : 0 ≤ xa ∧ xa ≤ 255 := hx2.elim (fun h => absurd h h0) (fun h => h.elim (fun h => absurd h h1) id)
          generalize takesN xo = tk at hTk h0 h1
          have e0 : (tk == 0) = false := by simp [h0]
          have e1 : (tk == 1) = false := by simp [h1]
          clear HS HI hx2
          have hB2' : ∀ W v, MineW w0 W v (bs ++ hd ++ xs ++ [UInt8.ofNat xo.toNat]) → Calls Tryz.prog 49 #[.pointer (some ⟨w0.heap.size + 1, 0, none⟩), .slice (some ⟨W.heap.size, 0, none⟩) 1 1] (W.alloc (.cells #[.int .i64 xa] 3)) (WroteW w0 (bs ++ hd ++ xs ++ [UInt8.ofNat xo.toNat] ++ [UInt8.ofNat xa.toNat]) (.int .i64 0) W v) := fun W v M => by
            have := byteW w0 W v _ M W.heap.size xa.toNat rfl (by omega) (by simp only [List.length_append, List.length_cons, List.length_nil]; omega)
            rw [Int.toNat_of_nonneg hxa.1] at this
            exact this
          go_upto_region 5 with fail
          rw [← hW4]
          clear hW4
          go_wp2_with (first | (go_at_call 49; first | (refine hBy.mono ?_; rintro e w5 ⟨v5, rfl, M5, hs5⟩; clear hBy; have Kb5 := Kb4.step hs5; have Kx5 := Kx.step hs5; have S5 := S4.trans hs5; have b5 : w5.cell? ⟨B, 0, none⟩ = some (.pointer (some ⟨w0.heap.size + 1, 0, none⟩)) := (by rw [Lib.cell_of_heap Kb5.there]; rfl); have x5 : w5.cell? ⟨wr.heap.size, 0, none⟩ = some (.int .i64 xo) := (by rw [Lib.cell_of_heap Kx5.there]; rfl); have y5 : w5.cell? ⟨wr.heap.size, 1, none⟩ = some (.int .i64 xa) := (by rw [Lib.cell_of_heap Kx5.there]; rfl); have hB2 := hB2' w5 v5 M5; clear Kx5) | (refine hB2.mono ?_; rintro e w6 ⟨v6, rfl, M6, hs6⟩; clear hB2)) | (go_at_call 98; refine (hTk _).mono ?_; rintro e w' ⟨rfl, hw'⟩; replace hw' := hw'.symm; subst hw'))
          exact ⟨⟨k + 1, v6, by omega, by go_num, by rw [HT.out]; exact M6, (Kb5.step hs6), (S5.trans hs6)⟩, by simp [intOf]; omega⟩
    · have htk : is.take k = is := List.take_of_length_le (by omega)
      rw [htk] at Mr
      have HD : Hid (bs ++ codeB is = bs ++ hd ++ is.flatMap insB) := hid (by rw [HC.out, List.append_assoc])
      go_wp2_with fail
      go_end0
      exact ⟨vr, rfl, by rw [HD.out]; exact Mr, Sr⟩
end Go.Proofs.YtfnpngbcnmglfaaGreat
