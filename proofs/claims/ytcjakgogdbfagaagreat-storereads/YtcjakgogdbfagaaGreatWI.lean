/- What a Writer's Byte does. A Writer's calls that are refused: nothing is written, the error is told. Plain facts: numbers and texts are read as they were written. -/
import Derived.Test.YtcjakgogdbfagaaGreatWF
import Derived.Test.YtcjakgogdbfagaaGreatWH
import Derived.Test.YtcjakgogdbfagaaGreatRD
namespace Go.Proofs.YtcjakgogdbfagaaGreat
open Go.RowKit

/-- Numbers as bytes. -/
def byts (ns : List Int) : List UInt8 := ns.map fun n => UInt8.ofNat n.toNat
theorem byts_snoc (ns : List Int) (k : Nat) (h : k < ns.length) : byts (ns.take (k + 1)) = byts (ns.take k) ++ [UInt8.ofNat ns[k].toNat] := by
  rw [List.take_succ_eq_append_getElem h]; simp only [byts, List.map_append, List.map_cons, List.map_nil]
theorem byts_length (ns : List Int) : (byts ns).length = ns.length := by simp [byts]

theorem src_new {P : Program} {tx e' : TypeId} (hk : P.underlying tx = some (.slice e')) (B : Nat) (x y : Value) (t : TypeId) (W : World) (hb : W.heap[B]? = some (.cells #[x] t (0, 0))) (h : x = y) (h1 : y.oneCell' = true) (c : Nat) : Src P 1 tx (.slice (some ⟨B, 0, none⟩) 1 c) [y].length [y] W := by
  subst h
  exact Src.ofSlice _ hk _ 1 c [x] rfl (World.news_of_block hb) (by intro u hu; simp at hu; subst hu; exact h1)

attribute [local go_sem ↓] Go.wp_at_zero Go.wp_at_succ
end Go.Proofs.YtcjakgogdbfagaaGreat
namespace Go.Proofs.YtcjakgogdbfagaaGreat
open Go.RowKit

/-- What a refused call leaves: the Writer as it was. -/
def Refused (p h : Nat) (v : Value) (code : Int) (w : World) (e : Ending) (w' : World) : Prop :=
  e = .returned (.int .i64 code) ∧ WrE w' p h v 0 ∧ Chg w w' (fun k => k = h)
theorem Refused.of {p h : Nat} {v : Value} {w : World} (H : WrE w p h v 0) (code : Int) : Refused p h v code w (.returned (.int .i64 code)) ((w.setCell ⟨h, 1, none⟩ (.int .i64 code)).setCell ⟨h, 1, none⟩ (.int .i64 0)) :=
  ⟨rfl, (H.set1 code).set1 0, (Chg.setCell w ⟨h, 1, none⟩ _).trans (Chg.setCell _ ⟨h, 1, none⟩ _) (fun _ _ e => e)⟩

theorem int_no (p h : Nat) (ao0 : Option Addr) (len cap0 : Nat) (ao : Option Addr) (n cap : Nat) (w : World) (H : WrE w p h (.slice ao0 len cap0) 0) (hl : len ≤ 1048576)
    (hroom : 1048576 - len < 8 * n) :
    Calls Tryz.prog 27 #[.pointer (some ⟨p, 0, none⟩), .slice ao n cap] w fun e w' => Refused p h (.slice ao0 len cap0) 6 w e w' :=
  (int_full p h ao0 len cap0 ao n cap w H hl hroom).mono fun e w' ⟨he, hw⟩ => by subst he; subst hw; exact Refused.of H 6

theorem texts_le (ss : List (List UInt8)) (h : ∀ j (h : j < ss.length), ss[j].length ≤ 65535) : (texts ss).length ≤ 65537 * ss.length := by
  induction ss with
  | nil => simp [texts]
  | cons s r ih =>
    have h0 := h 0 (by simp)
    have ih' := ih (fun j hj => h (j + 1) (by simp; omega))
    simp only [texts, List.flatMap_cons, List.length_append, text_length, List.length_cons, List.getElem_cons_zero] at *
    omega

set_option maxHeartbeats 2000000 in
theorem text_big (p h : Nat) (ao0 : Option Addr) (len cap0 : Nat) (ao : Option Addr) (n cap : Nat) (ss : List (List UInt8)) (w : World) (H : WrE w p h (.slice ao0 len cap0) 0) (hl : len ≤ 1048576) (hn : ss.length = n) (hm : n ≤ 8796093022208)
    (hS0 : Ss w ao ss) (J : Nat) (hJ : J < ss.length) (hJb : 65535 < ss[J].length) (hJm : ss[J].length ≤ 9223372036854775807) (hall : ∀ j (h : j < J), (ss[j]'(by omega)).length ≤ 65535) :
    Calls Tryz.prog 30 #[.pointer (some ⟨p, 0, none⟩), .slice ao n cap] w fun e w' => Refused p h (.slice ao0 len cap0) 6 w e w' := by
  have HR := Refused.of H 6
  have H6 := H.set1 6
  obtain ⟨d0, d1, g0, g1⟩ := cells2 H6.hh
  have dp := cell_of_one H6.hp
  obtain ⟨c0, c1, f0, f1⟩ := cells2 H.hh
  have cp := cell_of_one H.hp
  obtain ⟨b, off, rfl, hc⟩ : ∃ b off, ao = some ⟨b, off, none⟩ ∧ ∀ j (h : j < ss.length), w.cell? ⟨b, off + j, none⟩ = some (.string ⟨ss[j].toArray⟩) := by
    rcases hS0 with rfl | h
    · simp at hJ
    · exact h
  go_enter Tryz.func30, Tryz.ntmps30
  go_wp2_with fail
  refine (made_any p h _ 0 w H).mono ?_
  rintro e w1 ⟨rfl, hw⟩
  subst hw
  go_wp2
  go_loop [5, 15] (fun sz i => ∃ k : Nat, k ≤ J ∧ i = .int .i64 k ∧ sz = .int .i64 ((texts (ss.take k)).length : Nat)) (fun _ i => n - (intOf i).toNat)
  case atStart => exact ⟨0, Nat.zero_le _, rfl, rfl⟩
  case round =>
    obtain ⟨k, hk, rfl, rfl⟩ := hrel
    have hck := hc k (by omega)
    have htk : (texts (ss.take k)).length ≤ 65537 * n := by
      have := texts_le (ss.take k) (fun j hj => by
        have hj' : j < k := by simp at hj; omega
        rw [List.getElem_take]; exact hall j (by omega))
      simp only [List.length_take] at this
      omega
    have hlt : k < n := by omega
    by_cases hkJ : k < J
    · have hak := hall k hkJ
      have HS : Hid ((texts (ss.take (k + 1))).length = (texts (ss.take k)).length + (2 + (ss[k]'(by omega)).length)) := hid (by rw [texts_snoc _ _ (by omega), List.length_append, text_length])
      generalize ss[k]'(by omega) = s at hck hak HS
      generalize (texts (ss.take k)).length = T at htk HS
      clear hc hall
      go_wp2
      go_round
      case rel => exact ⟨k + 1, by omega, by go_num, by rw [HS.out]; go_num⟩
      case measure => simp [intOf]; omega
    · obtain rfl : k = J := by omega
      generalize ss[k]'hJ = s at hck hJb hJm
      generalize (texts (ss.take k)).length = T at htk
      clear hc hall
      by_cases hT : T ≤ 1048576 - len
      · go_wp2_with (first
          | (go_at_call 59; refine (fail_any p h _ 0 6 _ H).mono ?_; rintro e w' ⟨rfl, hw⟩; rw [if_pos rfl] at hw; subst hw)
          | (go_at_call 54; refine (needRoom_ok p h ao0 len cap0 6 _ 1 _ H6 hl (by decide) (by decide) (by omega)).mono ?_; rintro e w' ⟨rfl, hw⟩; rw [hw]; clear hw)
          | (go_at_call 56; refine (endCall_any p h _ 6 _ H6).mono ?_; rintro e w' ⟨rfl, hw⟩; subst hw))
        go_ret
        exact HR
      · go_wp2_with (first
          | (go_at_call 59; refine (fail_any p h _ 0 6 _ H).mono ?_; rintro e w' ⟨rfl, hw⟩; rw [if_pos rfl] at hw; subst hw)
          | (go_at_call 54; refine (needRoom_no p h ao0 len cap0 6 _ 1 _ H6 hl (by decide) (by decide) (by omega)).mono ?_; rintro e w' ⟨rfl, hw⟩; rw [if_neg (by decide)] at hw; rw [hw]; clear hw)
          | (go_at_call 56; refine (endCall_any p h _ 6 _ H6).mono ?_; rintro e w' ⟨rfl, hw⟩; subst hw))
        go_ret
        exact HR

set_option maxHeartbeats 2000000 in
theorem text_full (p h : Nat) (ao0 : Option Addr) (len cap0 : Nat) (ao : Option Addr) (n cap : Nat) (ss : List (List UInt8)) (w : World) (H : WrE w p h (.slice ao0 len cap0) 0) (hl : len ≤ 1048576) (hn : ss.length = n) (hm : n ≤ 8796093022208)
    (hS0 : Ss w ao ss) (hall : ∀ j (h : j < ss.length), ss[j].length ≤ 65535) (hroom : 1048576 - len < (texts ss).length) :
    Calls Tryz.prog 30 #[.pointer (some ⟨p, 0, none⟩), .slice ao n cap] w fun e w' => Refused p h (.slice ao0 len cap0) 6 w e w' := by
  have HR := Refused.of H 6
  have H6 := H.set1 6
  obtain ⟨d0, d1, g0, g1⟩ := cells2 H6.hh
  have dp := cell_of_one H6.hp
  go_enter Tryz.func30, Tryz.ntmps30
  go_wp2_with fail
  refine (made_any p h _ 0 w H).mono ?_
  rintro e w1 ⟨rfl, hw⟩
  subst hw
  go_wp2
  go_loop [5, 15] (fun sz i => ∃ k : Nat, k ≤ n ∧ i = .int .i64 k ∧ sz = .int .i64 ((texts (ss.take k)).length : Nat)) (fun _ i => n - (intOf i).toNat)
  case atStart => exact ⟨0, Nat.zero_le _, rfl, rfl⟩
  case round =>
    obtain ⟨k, hk, rfl, rfl⟩ := hrel
    have htk : (texts (ss.take k)).length ≤ 65537 * n := by
      have := texts_le ss hall
      have := texts_take_le ss k
      omega
    by_cases hlt : k < n
    · rcases hS0 with hS0 | ⟨b, off, rfl, hc⟩
      · subst hS0; simp at hn; omega
      · have hck := hc k (by omega)
        have hak := hall k (by omega)
        have HS : Hid ((texts (ss.take (k + 1))).length = (texts (ss.take k)).length + (2 + (ss[k]'(by omega)).length)) := hid (by rw [texts_snoc _ _ (by omega), List.length_append, text_length])
        generalize ss[k]'(by omega) = s at hck hak HS
        generalize (texts (ss.take k)).length = T at htk HS
        clear hc hall
        go_wp2
        go_round
        case rel => exact ⟨k + 1, by omega, by go_num, by rw [HS.out]; go_num⟩
        case measure => simp [intOf]; omega
    · have e : ss.take k = ss := List.take_of_length_le (by omega)
      rw [e] at htk ⊢
      generalize (texts ss).length = T at htk hroom
      clear hall e
      go_wp2_with (first
        | (go_at_call 54; refine (needRoom_no p h ao0 len cap0 0 _ 1 _ H hl (by decide) (by decide) (by omega)).mono ?_; rintro e w' ⟨rfl, hw⟩; rw [if_pos rfl] at hw; subst hw)
        | (go_at_call 56; refine (endCall_any p h _ 6 _ H6).mono ?_; rintro e w' ⟨rfl, hw⟩; subst hw))
      go_ret
      exact HR

end Go.Proofs.YtcjakgogdbfagaaGreat
namespace Go.Proofs.YtcjakgogdbfagaaGreat
open Go.RowKit

theorem be_succ (n k : Nat) : be n (k + 1) = be (n / 256) k ++ [UInt8.ofNat n] := by
  unfold be
  rw [List.range_succ, List.map_append, List.map_cons, List.map_nil]
  congr 1
  · apply List.map_congr_left
    intro j hj
    have hj' : j < k := List.mem_range.1 hj
    congr 1
    rw [show k + 1 - 1 - j = (k - 1 - j) + 1 by omega, Nat.pow_succ, Nat.mul_comm, Nat.div_div_eq_div_mul]
  · simp
theorem num_be (n k : Nat) (hk : k ≤ 8) : num (be n k) = n % 256 ^ k := by
  induction k generalizing n with
  | zero => simp [be, num, Nat.mod_one]
  | succ k ih =>
    rw [be_succ]
    have e : num (be (n / 256) k ++ [UInt8.ofNat n]) = numStep (num (be (n / 256) k)) (UInt8.ofNat n) := by simp only [num, List.foldl_append, List.foldl_cons, List.foldl_nil]
    rw [e, ih (n / 256) (by omega)]
    unfold numStep
    rw [UInt8.toNat_ofNat', show (256 : Nat) ^ (k + 1) = 256 * 256 ^ k by rw [Nat.pow_succ, Nat.mul_comm], Nat.mod_mul, show (2 : Nat) ^ 8 = 256 from rfl]
    have hp : 256 ^ k ≤ 256 ^ 7 := Nat.pow_le_pow_right (by decide) (by omega)
    have hl : n / 256 % 256 ^ k < 256 ^ k := Nat.mod_lt _ (Nat.pow_pos (by decide))
    have h7 : (256 : Nat) ^ 7 = 72057594037927936 := by decide
    rw [h7] at hp
    rw [Nat.mod_eq_of_lt (by omega)]
    omega
theorem back_int (x : Int) (h1 : -9223372036854775808 ≤ x) (h2 : x ≤ 9223372036854775807) : toInt (num (be64 x)) = x := by
  unfold be64
  rw [num_be _ 8 (by decide), show (256 : Nat) ^ 8 = 18446744073709551616 from rfl]
  unfold toInt
  split <;> omega
theorem ints_drop (ns : List Int) (k : Nat) (h : k < ns.length) : ints (ns.drop k) = be64 ns[k] ++ ints (ns.drop (k + 1)) := by
  rw [List.drop_eq_getElem_cons h]; simp only [ints, List.flatMap_cons]
theorem texts_drop (ss : List (List UInt8)) (k : Nat) (h : k < ss.length) : texts (ss.drop k) = text ss[k] ++ texts (ss.drop (k + 1)) := by
  rw [List.drop_eq_getElem_cons h]; simp only [texts, List.flatMap_cons]
theorem read_int (x : Int) (r : List UInt8) : (be64 x ++ r).take 8 = be64 x ∧ (be64 x ++ r).drop 8 = r := by
  have h := be64_length x
  exact ⟨by rw [← h]; exact List.take_left, by rw [← h]; exact List.drop_left⟩
theorem read_text (s r : List UInt8) (hs : s.length ≤ 65535) : tlOf (text s ++ r) = s.length ∧ ((text s ++ r).drop 2).take s.length = s ∧ (text s ++ r).drop (2 + s.length) = r ∧ 2 + s.length ≤ (text s ++ r).length := by
  have hb := be_length s.length 2
  have e1 : (text s ++ r).take 2 = be s.length 2 := by unfold text; rw [List.append_assoc, ← hb]; exact List.take_left
  have e2 : (text s ++ r).drop 2 = s ++ r := by unfold text; rw [List.append_assoc, ← hb]; exact List.drop_left
  have hl : (text s ++ r).length = 2 + s.length + r.length := by rw [List.length_append, text_length]
  refine ⟨?_, by rw [e2]; exact List.take_left, ?_, by omega⟩
  · unfold tlOf
    rw [if_neg (by omega), e1, num_be _ 2 (by decide)]
    omega
  · rw [← List.drop_drop, e2]; exact List.drop_left
theorem Is.keep {w w' : World} {ao : Option Addr} {ns : List Int} (h : Is w ao ns) (hk : ∀ a v, w.cell? a = some v → w'.cell? a = some v) : Is w' ao ns := by
  rcases h with h | ⟨b, off, h, hc⟩
  · exact .inl h
  · exact .inr ⟨b, off, h, fun j hj => hk _ _ (hc j hj)⟩
theorem Ss.keep {w w' : World} {ao : Option Addr} {ss : List (List UInt8)} (h : Ss w ao ss) (hk : ∀ a v, w.cell? a = some v → w'.cell? a = some v) : Ss w' ao ss := by
  rcases h with h | ⟨b, off, h, hc⟩
  · exact .inl h
  · exact .inr ⟨b, off, h, fun j hj => hk _ _ (hc j hj)⟩
/-- One call that is refused. -/
theorem int_none (p h base B : Nat) (v : Value) (bs : List UInt8) (x : Int) (w : World) (hB : w.heap.size = B) (H : WrE w p h v 0) (hO : OwnB w base v bs) (hl : bs.length ≤ 1048576) (hroom : 1048576 < bs.length + 8) :
    Calls Tryz.prog 27 #[.pointer (some ⟨p, 0, none⟩), .slice (some ⟨B, 0, none⟩) 1 1] (w.alloc (.cells #[.int .i64 x] 3)) fun e w' => e = .returned (.int .i64 6) ∧ Chg w w' (fun k => k = h) := by
  subst hB
  obtain ⟨ao0, cap0, rfl, _⟩ := Own.bs hO
  refine (int_no p h ao0 bs.length cap0 _ 1 1 _ (H.chg (Chg.alloc w _ (fun _ => False)) id id) hl (by omega)).mono ?_
  rintro e w' ⟨rfl, _, hc⟩
  exact ⟨rfl, (Chg.alloc w _ _).trans hc (fun _ _ e => e)⟩
theorem text_none (p h base B : Nat) (v : Value) (bs x : List UInt8) (w : World) (hB : w.heap.size = B) (H : WrE w p h v 0) (hO : OwnB w base v bs) (hl : bs.length ≤ 1048576) (hx : x.length ≤ 9223372036854775807) (hbad : 65535 < x.length ∨ 1048576 < bs.length + (2 + x.length)) :
    Calls Tryz.prog 30 #[.pointer (some ⟨p, 0, none⟩), .slice (some ⟨B, 0, none⟩) 1 1] (w.alloc (.cells #[.string ⟨x.toArray⟩] 9)) fun e w' => e = .returned (.int .i64 6) ∧ Chg w w' (fun k => k = h) := by
  subst hB
  obtain ⟨ao0, cap0, rfl, _⟩ := Own.bs hO
  have hS : Ss (w.alloc (.cells #[.string ⟨x.toArray⟩] 9)) (some ⟨w.heap.size, 0, none⟩) [x] := .inr ⟨w.heap.size, 0, rfl, fun j hj => by
    obtain rfl : j = 0 := by simp at hj; omega
    exact new_cell w _ _ 0 _ rfl⟩
  have Ha : WrE (w.alloc (.cells #[.string ⟨x.toArray⟩] 9)) p h (.slice ao0 bs.length cap0) 0 := H.chg (Chg.alloc w _ (fun _ => False)) id id
  have hend : ∀ e w', Refused p h (.slice ao0 bs.length cap0) 6 (w.alloc (.cells #[.string ⟨x.toArray⟩] 9)) e w' → e = .returned (.int .i64 6) ∧ Chg w w' (fun k => k = h) := by
    rintro e w' ⟨rfl, _, hc⟩
    exact ⟨rfl, (Chg.alloc w _ _).trans hc (fun _ _ e => e)⟩
  by_cases hb : 65535 < x.length
  · exact (text_big p h ao0 bs.length cap0 _ 1 1 [x] _ Ha hl rfl (by decide) hS 0 (by simp) hb hx (fun j hj => by omega)).mono hend
  · refine (text_full p h ao0 bs.length cap0 _ 1 1 [x] _ Ha hl rfl (by decide) hS (fun j hj => ?_) ?_).mono hend
    · obtain rfl : j = 0 := by simp at hj; omega
      simp only [List.getElem_cons_zero]; omega
    · have e : texts [x] = text x := by simp [texts]
      rw [e, text_length]; omega
/-- What was written is read. -/
theorem rint_back (p h g : Nat) (x : Int) (r : List UInt8) (w : World) (H : RdS w p h g (be64 x ++ r) 0) (h1 : -9223372036854775808 ≤ x) (h2 : x ≤ 9223372036854775807) :
    Calls Tryz.prog 15 #[.pointer (some ⟨p, 0, none⟩)] w fun e w' => e = .returned (.int .i64 x) ∧ RdS w' p h g r 0 ∧ Chg w w' (fun k => k = h) := by
  obtain ⟨e1, e2⟩ := read_int x r
  refine (rint_ok p h g _ w H (by rw [List.length_append, be64_length]; omega)).mono ?_
  rintro e w' ⟨rfl, hR, hc⟩
  rw [e2] at hR
  exact ⟨by rw [e1, back_int x h1 h2], hR, hc⟩
theorem rtext_back (p h g : Nat) (s r : List UInt8) (w : World) (H : RdS w p h g (text s ++ r) 0) (hs : s.length ≤ 65535) :
    Calls Tryz.prog 16 #[.pointer (some ⟨p, 0, none⟩)] w fun e w' => e = .returned (.string ⟨s.toArray⟩) ∧ RdS w' p h g r 0 ∧ Chg w w' (fun k => k = h) := by
  obtain ⟨e1, e2, e3, e4⟩ := read_text s r hs
  refine (rtext_ok p h g _ w H (by rw [e1]; exact e4)).mono ?_
  rintro e w' ⟨rfl, hR, hc⟩
  rw [e1, e3] at hR
  exact ⟨by rw [e1, e2], hR, hc⟩
theorem RdS.drew {w : World} {p h g : Nat} {bs : List UInt8} {err : Int} (H : RdS w p h g bs err) : RdS w.drew p h g bs err := H.chg (Chg.drew w (fun _ => False)) id id id
/-- Nothing that lies below a Reader turns. -/
theorem rd_below {w wr w2 : World} {h : Nat} (hb : Below w.heap.size w wr) (hh : w.heap.size ≤ h) (hc : Chg wr w2 (fun k => k = h)) : Below w.heap.size w w2 :=
  hb.trans (hc.below hb.size (fun i e => by omega))

end Go.Proofs.YtcjakgogdbfagaaGreat
