/- What a Writer's Text and Bytes do. What a Writer's Byte does. -/
import Derived.Test.YthmjejmignangaaGreatDoorWF
import Derived.Deep.RegionLaw
import Derived.Deep.DeepCutAuto
namespace Go.Proofs.YthmjejmignangaaGreatDoor
open Go.RowKit

set_option maxHeartbeats 1000000 in
theorem int_full (p h : Nat) (ao0 : Option Addr) (len cap0 : Nat) (ao : Option Addr) (n cap : Nat) (w : World) (H : WrE w p h (.slice ao0 len cap0) 0) (hl : len ≤ 1048576)
    (hroom : 1048576 - len < 8 * n) :
    Calls Tryz.prog 87 #[.pointer (some ⟨p, 0, none⟩), .slice ao n cap] w fun e w' => e = .returned (.int .i64 6) ∧ w' = (w.setCell ⟨h, 1, none⟩ (.int .i64 6)).setCell ⟨h, 1, none⟩ (.int .i64 0) := by
  have H6 := H.set1 6
  obtain ⟨c0, c1, f0, f1⟩ := cells2 H6.hh
  have cp := cell_of_one H6.hp
  go_enter Tryz.func87, Tryz.ntmps87
  go_wp2_with fail
  refine (made_any p h _ 0 w H).mono ?_
  rintro e w1 ⟨rfl, hw⟩
  subst hw
  go_wp2_with fail
  refine (needRoom_no p h ao0 len cap0 0 n 8 _ H hl (by decide) (by decide) (by omega)).mono ?_
  rintro e w2 ⟨rfl, hw⟩
  rw [if_pos rfl] at hw
  subst hw
  go_wp2_with fail
  refine (endCall_any p h _ 6 _ H6).mono ?_
  rintro e w2 ⟨rfl, rfl⟩
  go_wp2
  go_ret
  exact ⟨rfl, rfl⟩

/-- At ao there lie the texts ss. -/
def Ss (w : World) (ao : Option Addr) (ss : List (List UInt8)) : Prop :=
  ss = [] ∨ ∃ b off, ao = some ⟨b, off, none⟩ ∧ ∀ j (h : j < ss.length), w.cell? ⟨b, off + j, none⟩ = some (.string ⟨ss[j].toArray⟩)
def text (s : List UInt8) : List UInt8 := be s.length 2 ++ s
theorem text_length (s : List UInt8) : (text s).length = 2 + s.length := by rw [text, List.length_append, be_length]
def texts (ss : List (List UInt8)) : List UInt8 := ss.flatMap text
theorem texts_snoc (ss : List (List UInt8)) (k : Nat) (h : k < ss.length) : texts (ss.take (k + 1)) = texts (ss.take k) ++ text ss[k] := by
  rw [List.take_succ_eq_append_getElem h]; simp only [texts, List.flatMap_append, List.flatMap_cons, List.flatMap_nil, List.append_nil]
theorem texts_take_le (ss : List (List UInt8)) (k : Nat) : (texts (ss.take k)).length ≤ (texts ss).length := by
  have : texts ss = texts (ss.take k) ++ texts (ss.drop k) := by
    rw [texts, texts, texts, ← List.flatMap_append, List.take_append_drop]
  rw [this, List.length_append]; omega

attribute [local go_sem ↓] Go.wp_at_zero Go.wp_at_succ
set_option maxHeartbeats 400000 in
theorem bytes_any (p h base : Nat) (v : Value) (bs : List UInt8) (w : World) (H : WrE w p h v 0) (hO : OwnB w base v bs) (hl : bs.length ≤ 1048576) :
    Calls Tryz.prog 89 #[.pointer (some ⟨p, 0, none⟩)] w fun e w' => e = .returned (.slice (some ⟨w.heap.size, 0, none⟩) bs.length bs.length) ∧ OwnB w' w.heap.size (.slice (some ⟨w.heap.size, 0, none⟩) bs.length bs.length) bs ∧ Below w.heap.size w w' := by
  obtain ⟨ao0, cap0, rfl, hle0, hmx0, hB0, hat0, hnone0⟩ := Own.bs hO
  obtain ⟨c0, c1, f0, f1⟩ := cells2 H.hh
  have cp := cell_of_one H.hp
  go_enter Tryz.func89, Tryz.ntmps89
  go_wp2_with fail
  refine (made_any p h _ 0 w H).mono ?_
  rintro e w1 ⟨rfl, hw⟩
  subst hw
  go_wp2_with fail
  refine (fresh_any ao0 bs.length cap0 bs _ rfl (by omega) hB0).mono ?_
  rintro e w2 ⟨rfl, hO2, hb2⟩
  go_wp2
  go_ret
  exact ⟨rfl, hO2, hb2⟩

end Go.Proofs.YthmjejmignangaaGreatDoor
namespace Go.Proofs.YthmjejmignangaaGreatDoor
open Go.RowKit

/-- Numbers as bytes. -/
def byts (ns : List Int) : List UInt8 := ns.map fun n => UInt8.ofNat n.toNat
theorem byts_snoc (ns : List Int) (k : Nat) (h : k < ns.length) : byts (ns.take (k + 1)) = byts (ns.take k) ++ [UInt8.ofNat ns[k].toNat] := by
  rw [List.take_succ_eq_append_getElem h]; simp only [byts, List.map_append, List.map_cons, List.map_nil]
theorem byts_length (ns : List Int) : (byts ns).length = ns.length := by simp [byts]

theorem src_new {P : Program} {tx e' : TypeId} (hk : P.underlying tx = some (.slice e')) (B : Nat) (x y : Value) (t : TypeId) (W : World) (hb : W.heap[B]? = some (.cells #[x] t (0, 0))) (h : x = y) (h1 : y.oneCell' = true) (c : Nat) : Src P 1 tx (.slice (some ⟨B, 0, none⟩) 1 c) [y].length [y] W := by
  subst h
  exact Src.ofSlice _ hk _ 1 c [x] rfl (World.news_of_block hb) (by intro u hu; simp at hu; subst hu; exact h1)

attribute [local go_sem ↓] Go.wp_at_zero Go.wp_at_succ
set_option maxHeartbeats 2000000 in
theorem byte_ok (p h base : Nat) (v : Value) (bs : List UInt8) (ao : Option Addr) (n cap : Nat) (ns : List Int) (w : World) (H : WrE w p h v 0) (hO : OwnB w base v bs) (hbase : base ≤ w.heap.size) (hl : bs.length ≤ 1048576) (hn : ns.length = n) (hm : n ≤ 140737488355328)
    (hI : ∀ w', Chg w w' (WSet h v) → Is w' ao ns) (hall : ∀ j (h : j < ns.length), 0 ≤ ns[j] ∧ ns[j] ≤ 255) (hroom : n ≤ 1048576 - bs.length) :
    Calls Tryz.prog 88 #[.pointer (some ⟨p, 0, none⟩), .slice ao n cap] w fun e w' => ∃ v', e = .returned (.int .i64 0) ∧ WrE w' p h v' 0 ∧ OwnB w' base v' (bs ++ byts ns) ∧ WStep h w v w' v' := by
  obtain ⟨ao0, cap0, rfl, hle0, hmx0, hB0, hat0, hnone0⟩ := Own.bs hO
  have hS0 := hI w (Chg.refl _ _)
  go_enter Tryz.func88, Tryz.ntmps88
  go_wp2_with fail
  refine (made_any p h _ 0 w H).mono ?_
  rintro e w1 ⟨rfl, hw⟩
  subst hw
  go_wp2
  go_loop [14] (fun i => ∃ k : Nat, k ≤ n ∧ i = .int .i64 k) (fun i => n - (intOf i).toNat)
  case atStart => exact ⟨0, Nat.zero_le _, rfl⟩
  case round =>
    obtain ⟨k, hk, rfl⟩ := hrel
    by_cases hlt : k < n
    · rcases hS0 with hS0 | ⟨b, off, rfl, hc⟩
      · subst hS0; simp at hn; omega
      · have hck := hc k (by omega)
        obtain ⟨ha1, ha2⟩ := hall k (by omega)
        generalize ns[k]'(by omega) = N at hck ha1 ha2
        have d1 : decide (N < 0) = false := by simp; omega
        have d2 : decide (255 < N) = false := by simp; omega
        clear hc hI
        go_wp2
        go_round
        case rel => exact ⟨k + 1, by omega, by go_num⟩
        case measure => simp [intOf]; omega
    · go_wp2_with fail
      refine (needRoom_ok p h ao0 bs.length cap0 0 n 1 _ H hl (by decide) (by decide) (by omega)).mono ?_
      rintro e w1 ⟨rfl, hw⟩
      subst hw
      obtain ⟨c0, c1, f0, f1⟩ := cells2 H.hh
      have cp := cell_of_one H.hp
      go_wp2
      go_loopw [44] (fun i wr => ∃ (m : Nat) (vr : Value), m ≤ n ∧ i = .int .i64 m ∧ WrE wr p h vr 0 ∧ OwnB wr base vr (bs ++ byts (ns.take m)) ∧ WStep h w1 (.slice ao0 bs.length cap0) wr vr) (fun i _ => n - (intOf i).toNat)
      case atStart => exact ⟨0, _, Nat.zero_le _, rfl, H, by simpa [byts] using hO, WStep.refl _ _ _⟩
      case round =>
        obtain ⟨m, vr, hmn, rfl, Hr, hOr, hsr⟩ := hrel
        by_cases hml : m < n
        · have HS : Hid (bs ++ byts (ns.take (m + 1)) = (bs ++ byts (ns.take m)) ++ [UInt8.ofNat (ns[m]'(by omega)).toNat]) := hid (by rw [byts_snoc _ _ (by omega), List.append_assoc])
          have hlen : (bs ++ byts (ns.take m)).length = bs.length + m := by rw [List.length_append, byts_length, List.length_take]; omega
          have hsz : base ≤ wr.heap.size := Nat.le_trans hbase hsr.1.size
          rcases hI wr hsr.1 with hI' | ⟨b, off, rfl, hc⟩
          · subst hI'; simp at hn; omega
          · have hck := hc m (by omega)
            obtain ⟨ha1, ha2⟩ := hall m (by omega)
            generalize ns[m]'(by omega) = N at hck ha1 ha2 HS
            generalize bs ++ byts (ns.take m) = xs at hOr hlen HS
            have hbv : IntKind.u8.wrap N = (((UInt8.ofNat N.toNat).toNat : Nat) : Int) := by rw [UInt8.toNat_ofNat', IntKind.wrap_u8']; omega
            generalize UInt8.ofNat N.toNat = X at hbv HS
            have Ha : WrE (wr.alloc (.cells #[.int .u8 (X.toNat : Int)] 5)) p h vr 0 := Hr.chg (Chg.alloc wr _ (fun _ => False)) id id
            obtain ⟨a0, a1, b0, b1⟩ := cells2 Ha.hh
            have ap := cell_of_one Ha.hp
            obtain ⟨d0, d1, g0, g1⟩ := cells2 Hr.hh
            have dp := cell_of_one Hr.hp
            clear hc hI c0 c1 f0 f1 cp hB0 hS0 hall
            go_wp2
            go_region_law ((refine step_app _ (by rfl) _ _ _ _ (by rfl) elem_u8 base vr _ (by rfl) (by exact (Own.alloc hOr _)) _ (by rfl) [bv X] (src_new Tryz.underlying29 wr.heap.size _ _ _ _ (by exact heap_alloc_new wr _) rfl rfl _) (by simp only [List.length_map, List.length_singleton, hlen]; unfold maxLen; omega) (by simp only [List.length_map, List.length_singleton, hlen]; omega) (by have := hsz; simp; omega) ?_; intro v2 w2 hO2 hs2; rw [show [bv X] = [X].map bv from rfl, ← List.map_append] at hO2; obtain ⟨ao2, cap2, hv2, _, _, _, _, _⟩ := Own.bs hO2; rw [List.length_append, hlen, List.length_singleton] at hv2; subst hv2; have hs3 : Step wr vr w2 _ := (((Step.refl wr vr).alloc _).drew).trans hs2; have H2 := Hr.step hOr hs3; obtain ⟨q0, q1, q2, q3⟩ := cells2 H2.hh; have qp := cell_of_one H2.hp))
            all_goals
              have R1 : WrE (w2.setCell ⟨h, 0, none⟩ (.slice ao2 (bs.length + m + 1) cap2)) p h (.slice ao2 (bs.length + m + 1) cap2) 0 := H2.set0 _
              have R2 : OwnB (w2.setCell ⟨h, 0, none⟩ (.slice ao2 (bs.length + m + 1) cap2)) base (.slice ao2 (bs.length + m + 1) cap2) (bs ++ byts (ns.take (m + 1))) := by
                rw [HS.out]; exact ownsRow_setCell_other hO2 (H2.apart hO2).2 _
              have R3 := hsr.trans ((WStep.of_step (h := h) hs3).trans (WStep.setCell h 0 w2 _ (.slice ao2 (bs.length + m + 1) cap2)))
              clear hs2 hs3 H2 q0 q1 q2 q3 qp hO2 Hr hOr hsr d0 d1 g0 g1 dp hck Ha a0 a1 b0 b1 ap hbv
              go_wp2
              go_roundw
              case rel => exact ⟨m + 1, _, by omega, by go_num, R1, R2, R3⟩
              case measure => simp [intOf]; omega
        · have HE : Hid (ns.take m = ns) := List.take_of_length_le (by omega)
          go_wp2_with fail
          refine (endCall_any p h _ 0 _ Hr).mono ?_
          rintro e w2 ⟨rfl, rfl⟩
          go_wp2
          go_ret
          rw [HE.out] at hOr
          exact ⟨vr, rfl, Hr.set1 0, ownsRow_setCell_other hOr (Hr.apart hOr).2 _, hsr.trans (WStep.setCell _ _ _ _ _)⟩

end Go.Proofs.YthmjejmignangaaGreatDoor
