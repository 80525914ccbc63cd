/- What a Writer's Byte does. A Writer's calls that are refused: nothing is written, the error is told. -/
import Derived.Test.YtmaecpmdikdclaaWG
import Derived.Test.YtmaecpmdikdclaaWH
namespace Go.Proofs.Ytmaecpmdikdclaa
open Go.RowKit

/-- Numbers as bytes. -/
def byts (ns : List Int) : List UInt8 := ns.map fun n => UInt8.ofNat n.toNat
theorem byts_snoc (ns : List Int) (k : Nat) (h : k < ns.length) : byts (ns.take (k + 1)) = byts (ns.take k) ++ [UInt8.ofNat ns[k].toNat] := by
  rw [List.take_succ_eq_append_getElem h]; simp only [byts, List.map_append, List.map_cons, List.map_nil]
theorem byts_length (ns : List Int) : (byts ns).length = ns.length := by simp [byts]

theorem src_new {P : Program} {tx e' : TypeId} (hk : P.underlying tx = some (.slice e')) (B : Nat) (x y : Value) (t : TypeId) (W : World) (hb : W.heap[B]? = some (.cells #[x] t (0, 0))) (h : x = y) (h1 : y.oneCell' = true) (c : Nat) : Src P 1 tx (.slice (some ⟨B, 0, none⟩) 1 c) [y].length [y] W := by
  subst h
  exact Src.ofSlice _ hk _ 1 c [x] rfl (World.news_of_block hb) (by intro u hu; simp at hu; subst hu; exact h1)

attribute [local go_sem ↓] Go.wp_at_zero Go.wp_at_succ
set_option maxHeartbeats 2000000 in
theorem byte_ok (p h base : Nat) (v : Value) (bs : List UInt8) (ao : Option Addr) (n cap : Nat) (ns : List Int) (w : World) (H : WrE w p h v 0) (hO : OwnB w base v bs) (hbase : base ≤ w.heap.size) (hl : bs.length ≤ 1048576) (hn : ns.length = n) (hm : n ≤ 140737488355328)
    (hI : ∀ w', Chg w w' (WSet h v) → Is w' ao ns) (hall : ∀ j (h : j < ns.length), 0 ≤ ns[j] ∧ ns[j] ≤ 255) (hroom : n ≤ 1048576 - bs.length) :
    Calls Try.prog 37 #[.pointer (some ⟨p, 0, none⟩), .slice ao n cap] w fun e w' => ∃ v', e = .returned (.int .i64 0) ∧ WrE w' p h v' 0 ∧ OwnB w' base v' (bs ++ byts ns) ∧ WStep h w v w' v' := by
  obtain ⟨ao0, cap0, rfl, hle0, hmx0, hB0, hat0, hnone0⟩ := Own.bs hO
  have hS0 := hI w (Chg.refl _ _)
  go_enter Try.func37, Try.ntmps37
  go_wp2_with fail
  refine (made_any p h _ 0 w H).mono ?_
  rintro e w1 ⟨rfl, hw⟩
  subst hw
  go_wp2
  go_loop [14] (fun i => ∃ k : Nat, k ≤ n ∧ i = .int .i64 k) (fun i => n - (intOf i).toNat)
  case atStart => exact ⟨0, Nat.zero_le _, rfl⟩
  case round =>
    obtain ⟨k, hk, rfl⟩ := hrel
    by_cases hlt : k < n
    · rcases hS0 with hS0 | ⟨b, off, rfl, hc⟩
      · subst hS0; simp at hn; omega
      · have hck := hc k (by omega)
        obtain ⟨ha1, ha2⟩ := hall k (by omega)
        generalize ns[k]'(by omega) = N at hck ha1 ha2
        have d1 : decide (N < 0) = false := by simp; omega
        have d2 : decide (255 < N) = false := by simp; omega
        clear hc hI
        go_wp2
        go_round
        case rel => exact ⟨k + 1, by omega, by go_num⟩
        case measure => simp [intOf]; omega
    · go_wp2_with fail
      refine (needRoom_ok p h ao0 bs.length cap0 0 n 1 _ H hl (by decide) (by decide) (by omega)).mono ?_
      rintro e w1 ⟨rfl, hw⟩
      subst hw
      obtain ⟨c0, c1, f0, f1⟩ := cells2 H.hh
      have cp := cell_of_one H.hp
      go_wp2
      go_loopw [44] (fun i wr => ∃ (m : Nat) (vr : Value), m ≤ n ∧ i = .int .i64 m ∧ WrE wr p h vr 0 ∧ OwnB wr base vr (bs ++ byts (ns.take m)) ∧ WStep h w1 (.slice ao0 bs.length cap0) wr vr) (fun i _ => n - (intOf i).toNat)
      case atStart => exact ⟨0, _, Nat.zero_le _, rfl, H, by simpa [byts] using hO, WStep.refl _ _ _⟩
      case round =>
        obtain ⟨m, vr, hmn, rfl, Hr, hOr, hsr⟩ := hrel
        by_cases hml : m < n
        · have HS : Hid (bs ++ byts (ns.take (m + 1)) = (bs ++ byts (ns.take m)) ++ [UInt8.ofNat (ns[m]'(by omega)).toNat]) := hid (by rw [byts_snoc _ _ (by omega), List.append_assoc])
          have hlen : (bs ++ byts (ns.take m)).length = bs.length + m := by rw [List.length_append, byts_length, List.length_take]; omega
          have hsz : base ≤ wr.heap.size := Nat.le_trans hbase hsr.1.size
          rcases hI wr hsr.1 with hI' | ⟨b, off, rfl, hc⟩
          · subst hI'; simp at hn; omega
          · have hck := hc m (by omega)
            obtain ⟨ha1, ha2⟩ := hall m (by omega)
            generalize ns[m]'(by omega) = N at hck ha1 ha2 HS
            generalize bs ++ byts (ns.take m) = xs at hOr hlen HS
            have hbv : IntKind.u8.wrap N = (((UInt8.ofNat N.toNat).toNat : Nat) : Int) := by rw [UInt8.toNat_ofNat', IntKind.wrap_u8']; omega
            generalize UInt8.ofNat N.toNat = X at hbv HS
            have Ha : WrE (wr.alloc (.cells #[.int .u8 (X.toNat : Int)] 5)) p h vr 0 := Hr.chg (Chg.alloc wr _ (fun _ => False)) id id
            obtain ⟨a0, a1, b0, b1⟩ := cells2 Ha.hh
            have ap := cell_of_one Ha.hp
            obtain ⟨d0, d1, g0, g1⟩ := cells2 Hr.hh
            have dp := cell_of_one Hr.hp
            clear hc hI c0 c1 f0 f1 cp hB0 hS0 hall
            go_wp2
            go_region_law ((refine step_app _ (by rfl) _ _ _ _ (by rfl) elem_u8 base vr _ (by rfl) (by exact (Own.alloc hOr _)) _ (by rfl) [bv X] (src_new Try.underlying25 wr.heap.size _ _ _ _ (by exact heap_alloc_new wr _) rfl rfl _) (by simp only [List.length_map, List.length_singleton, hlen]; unfold maxLen; omega) (by simp only [List.length_map, List.length_singleton, hlen]; omega) (by have := hsz; simp; omega) ?_; intro v2 w2 hO2 hs2; rw [show [bv X] = [X].map bv from rfl, ← List.map_append] at hO2; obtain ⟨ao2, cap2, hv2, _, _, _, _, _⟩ := Own.bs hO2; rw [List.length_append, hlen, List.length_singleton] at hv2; subst hv2; have hs3 : Step wr vr w2 _ := (((Step.refl wr vr).alloc _).drew).trans hs2; have H2 := Hr.step hOr hs3; obtain ⟨q0, q1, q2, q3⟩ := cells2 H2.hh; have qp := cell_of_one H2.hp))
            all_goals
              have R1 : WrE (w2.setCell ⟨h, 0, none⟩ (.slice ao2 (bs.length + m + 1) cap2)) p h (.slice ao2 (bs.length + m + 1) cap2) 0 := H2.set0 _
              have R2 : OwnB (w2.setCell ⟨h, 0, none⟩ (.slice ao2 (bs.length + m + 1) cap2)) base (.slice ao2 (bs.length + m + 1) cap2) (bs ++ byts (ns.take (m + 1))) := by
                rw [HS.out]; exact ownsRow_setCell_other hO2 (H2.apart hO2).2 _
              have R3 := hsr.trans ((WStep.of_step (h := h) hs3).trans (WStep.setCell h 0 w2 _ (.slice ao2 (bs.length + m + 1) cap2)))
              clear hs2 hs3 H2 q0 q1 q2 q3 qp hO2 Hr hOr hsr d0 d1 g0 g1 dp hck Ha a0 a1 b0 b1 ap hbv
              go_wp2
              go_roundw
              case rel => exact ⟨m + 1, _, by omega, by go_num, R1, R2, R3⟩
              case measure => simp [intOf]; omega
        · have HE : Hid (ns.take m = ns) := List.take_of_length_le (by omega)
          go_wp2_with fail
          refine (endCall_any p h _ 0 _ Hr).mono ?_
          rintro e w2 ⟨rfl, rfl⟩
          go_wp2
          go_ret
          rw [HE.out] at hOr
          exact ⟨vr, rfl, Hr.set1 0, ownsRow_setCell_other hOr (Hr.apart hOr).2 _, hsr.trans (WStep.setCell _ _ _ _ _)⟩

end Go.Proofs.Ytmaecpmdikdclaa
namespace Go.Proofs.Ytmaecpmdikdclaa
open Go.RowKit

/-- What a refused call leaves: the Writer as it was. -/
def Refused (p h : Nat) (v : Value) (code : Int) (w : World) (e : Ending) (w' : World) : Prop :=
  e = .returned (.int .i64 code) ∧ WrE w' p h v 0 ∧ Chg w w' (fun k => k = h)
theorem Refused.of {p h : Nat} {v : Value} {w : World} (H : WrE w p h v 0) (code : Int) : Refused p h v code w (.returned (.int .i64 code)) ((w.setCell ⟨h, 1, none⟩ (.int .i64 code)).setCell ⟨h, 1, none⟩ (.int .i64 0)) :=
  ⟨rfl, (H.set1 code).set1 0, (Chg.setCell w ⟨h, 1, none⟩ _).trans (Chg.setCell _ ⟨h, 1, none⟩ _) (fun _ _ e => e)⟩

theorem int_no (p h : Nat) (ao0 : Option Addr) (len cap0 : Nat) (ao : Option Addr) (n cap : Nat) (w : World) (H : WrE w p h (.slice ao0 len cap0) 0) (hl : len ≤ 1048576)
    (hroom : 1048576 - len < 8 * n) :
    Calls Try.prog 38 #[.pointer (some ⟨p, 0, none⟩), .slice ao n cap] w fun e w' => Refused p h (.slice ao0 len cap0) 6 w e w' :=
  (int_full p h ao0 len cap0 ao n cap w H hl hroom).mono fun e w' ⟨he, hw⟩ => by subst he; subst hw; exact Refused.of H 6

theorem texts_le (ss : List (List UInt8)) (h : ∀ j (h : j < ss.length), ss[j].length ≤ 65535) : (texts ss).length ≤ 65537 * ss.length := by
  induction ss with
  | nil => simp [texts]
  | cons s r ih =>
    have h0 := h 0 (by simp)
    have ih' := ih (fun j hj => h (j + 1) (by simp; omega))
    simp only [texts, List.flatMap_cons, List.length_append, text_length, List.length_cons, List.getElem_cons_zero] at *
    omega

set_option maxHeartbeats 2000000 in
theorem text_big (p h : Nat) (ao0 : Option Addr) (len cap0 : Nat) (ao : Option Addr) (n cap : Nat) (ss : List (List UInt8)) (w : World) (H : WrE w p h (.slice ao0 len cap0) 0) (hl : len ≤ 1048576) (hn : ss.length = n) (hm : n ≤ 8796093022208)
    (hS0 : Ss w ao ss) (J : Nat) (hJ : J < ss.length) (hJb : 65535 < ss[J].length) (hJm : ss[J].length ≤ 9223372036854775807) (hall : ∀ j (h : j < J), (ss[j]'(by omega)).length ≤ 65535) :
    Calls Try.prog 84 #[.pointer (some ⟨p, 0, none⟩), .slice ao n cap] w fun e w' => Refused p h (.slice ao0 len cap0) 6 w e w' := by
  have HR := Refused.of H 6
  have H6 := H.set1 6
  obtain ⟨d0, d1, g0, g1⟩ := cells2 H6.hh
  have dp := cell_of_one H6.hp
  obtain ⟨c0, c1, f0, f1⟩ := cells2 H.hh
  have cp := cell_of_one H.hp
  obtain ⟨b, off, rfl, hc⟩ : ∃ b off, ao = some ⟨b, off, none⟩ ∧ ∀ j (h : j < ss.length), w.cell? ⟨b, off + j, none⟩ = some (.string ⟨ss[j].toArray⟩) := by
    rcases hS0 with rfl | h
    · simp at hJ
    · exact h
  go_enter Try.func84, Try.ntmps84
  go_wp2_with fail
  refine (made_any p h _ 0 w H).mono ?_
  rintro e w1 ⟨rfl, hw⟩
  subst hw
  go_wp2
  go_loop [5, 15] (fun sz i => ∃ k : Nat, k ≤ J ∧ i = .int .i64 k ∧ sz = .int .i64 ((texts (ss.take k)).length : Nat)) (fun _ i => n - (intOf i).toNat)
  case atStart => exact ⟨0, Nat.zero_le _, rfl, rfl⟩
  case round =>
    obtain ⟨k, hk, rfl, rfl⟩ := hrel
    have hck := hc k (by omega)
    have htk : (texts (ss.take k)).length ≤ 65537 * n := by
      have := texts_le (ss.take k) (fun j hj => by
        have hj' : j < k := by simp at hj; omega
        rw [List.getElem_take]; exact hall j (by omega))
      simp only [List.length_take] at this
      omega
    have hlt : k < n := by omega
    by_cases hkJ : k < J
    · have hak := hall k hkJ
      have HS : Hid ((texts (ss.take (k + 1))).length = (texts (ss.take k)).length + (2 + (ss[k]'(by omega)).length)) := hid (by rw [texts_snoc _ _ (by omega), List.length_append, text_length])
      generalize ss[k]'(by omega) = s at hck hak HS
      generalize (texts (ss.take k)).length = T at htk HS
      clear hc hall
      go_wp2
      go_round
      case rel => exact ⟨k + 1, by omega, by go_num, by rw [HS.out]; go_num⟩
      case measure => simp [intOf]; omega
    · obtain rfl : k = J := by omega
      generalize ss[k]'hJ = s at hck hJb hJm
      generalize (texts (ss.take k)).length = T at htk
      clear hc hall
      by_cases hT : T ≤ 1048576 - len
      · go_wp2_with (first
          | (go_at_call 62; refine (fail_any p h _ 0 6 _ H).mono ?_; rintro e w' ⟨rfl, hw⟩; rw [if_pos rfl] at hw; subst hw)
          | (go_at_call 63; refine (needRoom_ok p h ao0 len cap0 6 _ 1 _ H6 hl (by decide) (by decide) (by omega)).mono ?_; rintro e w' ⟨rfl, hw⟩; rw [hw]; clear hw)
          | (go_at_call 64; refine (endCall_any p h _ 6 _ H6).mono ?_; rintro e w' ⟨rfl, hw⟩; subst hw))
        go_ret
        exact HR
      · go_wp2_with (first
          | (go_at_call 62; refine (fail_any p h _ 0 6 _ H).mono ?_; rintro e w' ⟨rfl, hw⟩; rw [if_pos rfl] at hw; subst hw)
          | (go_at_call 63; refine (needRoom_no p h ao0 len cap0 6 _ 1 _ H6 hl (by decide) (by decide) (by omega)).mono ?_; rintro e w' ⟨rfl, hw⟩; rw [if_neg (by decide)] at hw; rw [hw]; clear hw)
          | (go_at_call 64; refine (endCall_any p h _ 6 _ H6).mono ?_; rintro e w' ⟨rfl, hw⟩; subst hw))
        go_ret
        exact HR

set_option maxHeartbeats 2000000 in
theorem text_full (p h : Nat) (ao0 : Option Addr) (len cap0 : Nat) (ao : Option Addr) (n cap : Nat) (ss : List (List UInt8)) (w : World) (H : WrE w p h (.slice ao0 len cap0) 0) (hl : len ≤ 1048576) (hn : ss.length = n) (hm : n ≤ 8796093022208)
    (hS0 : Ss w ao ss) (hall : ∀ j (h : j < ss.length), ss[j].length ≤ 65535) (hroom : 1048576 - len < (texts ss).length) :
    Calls Try.prog 84 #[.pointer (some ⟨p, 0, none⟩), .slice ao n cap] w fun e w' => Refused p h (.slice ao0 len cap0) 6 w e w' := by
  have HR := Refused.of H 6
  have H6 := H.set1 6
  obtain ⟨d0, d1, g0, g1⟩ := cells2 H6.hh
  have dp := cell_of_one H6.hp
  go_enter Try.func84, Try.ntmps84
  go_wp2_with fail
  refine (made_any p h _ 0 w H).mono ?_
  rintro e w1 ⟨rfl, hw⟩
  subst hw
  go_wp2
  go_loop [5, 15] (fun sz i => ∃ k : Nat, k ≤ n ∧ i = .int .i64 k ∧ sz = .int .i64 ((texts (ss.take k)).length : Nat)) (fun _ i => n - (intOf i).toNat)
  case atStart => exact ⟨0, Nat.zero_le _, rfl, rfl⟩
  case round =>
    obtain ⟨k, hk, rfl, rfl⟩ := hrel
    have htk : (texts (ss.take k)).length ≤ 65537 * n := by
      have := texts_le ss hall
      have := texts_take_le ss k
      omega
    by_cases hlt : k < n
    · rcases hS0 with hS0 | ⟨b, off, rfl, hc⟩
      · subst hS0; simp at hn; omega
      · have hck := hc k (by omega)
        have hak := hall k (by omega)
        have HS : Hid ((texts (ss.take (k + 1))).length = (texts (ss.take k)).length + (2 + (ss[k]'(by omega)).length)) := hid (by rw [texts_snoc _ _ (by omega), List.length_append, text_length])
        generalize ss[k]'(by omega) = s at hck hak HS
        generalize (texts (ss.take k)).length = T at htk HS
        clear hc hall
        go_wp2
        go_round
        case rel => exact ⟨k + 1, by omega, by go_num, by rw [HS.out]; go_num⟩
        case measure => simp [intOf]; omega
    · have e : ss.take k = ss := List.take_of_length_le (by omega)
      rw [e] at htk ⊢
      generalize (texts ss).length = T at htk hroom
      clear hall e
      go_wp2_with (first
        | (go_at_call 63; refine (needRoom_no p h ao0 len cap0 0 _ 1 _ H hl (by decide) (by decide) (by omega)).mono ?_; rintro e w' ⟨rfl, hw⟩; rw [if_pos rfl] at hw; subst hw)
        | (go_at_call 64; refine (endCall_any p h _ 6 _ H6).mono ?_; rintro e w' ⟨rfl, hw⟩; subst hw))
      go_ret
      exact HR

set_option maxHeartbeats 2000000 in
theorem byte_full (p h : Nat) (ao0 : Option Addr) (len cap0 : Nat) (ao : Option Addr) (n cap : Nat) (ns : List Int) (w : World) (H : WrE w p h (.slice ao0 len cap0) 0) (hl : len ≤ 1048576) (hn : ns.length = n) (hm : n ≤ 140737488355328)
    (hS0 : Is w ao ns) (hall : ∀ j (h : j < ns.length), 0 ≤ ns[j] ∧ ns[j] ≤ 255) (hroom : 1048576 - len < n) :
    Calls Try.prog 37 #[.pointer (some ⟨p, 0, none⟩), .slice ao n cap] w fun e w' => Refused p h (.slice ao0 len cap0) 6 w e w' := by
  have HR := Refused.of H 6
  have H6 := H.set1 6
  obtain ⟨d0, d1, g0, g1⟩ := cells2 H6.hh
  have dp := cell_of_one H6.hp
  go_enter Try.func37, Try.ntmps37
  go_wp2_with fail
  refine (made_any p h _ 0 w H).mono ?_
  rintro e w1 ⟨rfl, hw⟩
  subst hw
  go_wp2
  go_loop [14] (fun i => ∃ k : Nat, k ≤ n ∧ i = .int .i64 k) (fun i => n - (intOf i).toNat)
  case atStart => exact ⟨0, Nat.zero_le _, rfl⟩
  case round =>
    obtain ⟨k, hk, rfl⟩ := hrel
    by_cases hlt : k < n
    · rcases hS0 with hS0 | ⟨b, off, rfl, hc⟩
      · subst hS0; simp at hn; omega
      · have hck := hc k (by omega)
        obtain ⟨ha1, ha2⟩ := hall k (by omega)
        generalize ns[k]'(by omega) = N at hck ha1 ha2
        have d1 : decide (N < 0) = false := by simp; omega
        have d2 : decide (255 < N) = false := by simp; omega
        clear hc
        go_wp2
        go_round
        case rel => exact ⟨k + 1, by omega, by go_num⟩
        case measure => simp [intOf]; omega
    · go_wp2_with (first
        | (go_at_call 63; refine (needRoom_no p h ao0 len cap0 0 _ 1 _ H hl (by decide) (by decide) (by omega)).mono ?_; rintro e w' ⟨rfl, hw⟩; rw [if_pos rfl] at hw; subst hw)
        | (go_at_call 64; refine (endCall_any p h _ 6 _ H6).mono ?_; rintro e w' ⟨rfl, hw⟩; subst hw))
      go_ret
      exact HR

/-- One number, one text. -/
theorem byte_one (p h base B : Nat) (v : Value) (bs : List UInt8) (x : UInt8) (w : World) (hB : w.heap.size = B) (H : WrE w p h v 0) (hO : OwnB w base v bs) (hbase : base ≤ w.heap.size) (hroom : bs.length + 1 ≤ 1048576) :
    Calls Try.prog 37 #[.pointer (some ⟨p, 0, none⟩), .slice (some ⟨B, 0, none⟩) 1 1] (w.alloc (.cells #[.int .i64 (x.toNat : Int)] 3)) fun e w' => ∃ v', e = .returned (.int .i64 0) ∧ WrE w' p h v' 0 ∧ OwnB w' base v' (bs ++ [x]) ∧ WStep h w v w' v' := by
  subst hB
  have hnew : ¬ WSet h v w.heap.size := fun e => by
    rcases e with e | e
    · have := lt_of_block H.hh; omega
    · have := (hO.lt _ e).2; omega
  have hx := x.toNat_lt
  refine (byte_ok p h base v bs (some ⟨w.heap.size, 0, none⟩) 1 1 [(x.toNat : Int)] _ (H.chg (Chg.alloc w _ (fun _ => False)) id id) (Own.alloc hO _) (by simp; omega) (by omega) rfl (by decide) (fun w' hc => .inr ⟨w.heap.size, 0, rfl, fun j hj => ?_⟩) (fun j hj => ?_) (by omega)).mono ?_
  · obtain rfl : j = 0 := by simp at hj; omega
    exact hc.cell (new_cell w _ _ 0 _ rfl) hnew
  · obtain rfl : j = 0 := by simp at hj; omega
    simp only [List.getElem_cons_zero]; omega
  · rintro e w' ⟨v', rfl, H', hO', hs⟩
    refine ⟨v', rfl, H', ?_, (WStep.alloc h w v _).trans hs⟩
    have e : byts [(x.toNat : Int)] = [x] := by simp [byts]
    rw [← e]; exact hO'

end Go.Proofs.Ytmaecpmdikdclaa
