/- What a Writer's Byte does. A Writer's calls that are refused: nothing is written, the error is told. A Writer's three calls, each in one sentence: what is told, and what is written then. -/
import Derived.Test.YtcjakgogdbfagaaWF
import Derived.Test.YtcjakgogdbfagaaWH
namespace Go.Proofs.Ytcjakgogdbfagaa
open Go.RowKit

/-- Numbers as bytes. -/
def byts (ns : List Int) : List UInt8 := ns.map fun n => UInt8.ofNat n.toNat
theorem byts_snoc (ns : List Int) (k : Nat) (h : k < ns.length) : byts (ns.take (k + 1)) = byts (ns.take k) ++ [UInt8.ofNat ns[k].toNat] := by
  rw [List.take_succ_eq_append_getElem h]; simp only [byts, List.map_append, List.map_cons, List.map_nil]
theorem byts_length (ns : List Int) : (byts ns).length = ns.length := by simp [byts]

theorem src_new {P : Program} {tx e' : TypeId} (hk : P.underlying tx = some (.slice e')) (B : Nat) (x y : Value) (t : TypeId) (W : World) (hb : W.heap[B]? = some (.cells #[x] t (0, 0))) (h : x = y) (h1 : y.oneCell' = true) (c : Nat) : Src P 1 tx (.slice (some ⟨B, 0, none⟩) 1 c) [y].length [y] W := by
  subst h
  exact Src.ofSlice _ hk _ 1 c [x] rfl (World.news_of_block hb) (by intro u hu; simp at hu; subst hu; exact h1)

attribute [local go_sem ↓] Go.wp_at_zero Go.wp_at_succ
end Go.Proofs.Ytcjakgogdbfagaa
namespace Go.Proofs.Ytcjakgogdbfagaa
open Go.RowKit

/-- What a refused call leaves: the Writer as it was. -/
def Refused (p h : Nat) (v : Value) (code : Int) (w : World) (e : Ending) (w' : World) : Prop :=
  e = .returned (.int .i64 code) ∧ WrE w' p h v 0 ∧ Chg w w' (fun k => k = h)
theorem Refused.of {p h : Nat} {v : Value} {w : World} (H : WrE w p h v 0) (code : Int) : Refused p h v code w (.returned (.int .i64 code)) ((w.setCell ⟨h, 1, none⟩ (.int .i64 code)).setCell ⟨h, 1, none⟩ (.int .i64 0)) :=
  ⟨rfl, (H.set1 code).set1 0, (Chg.setCell w ⟨h, 1, none⟩ _).trans (Chg.setCell _ ⟨h, 1, none⟩ _) (fun _ _ e => e)⟩

theorem int_no (p h : Nat) (ao0 : Option Addr) (len cap0 : Nat) (ao : Option Addr) (n cap : Nat) (w : World) (H : WrE w p h (.slice ao0 len cap0) 0) (hl : len ≤ 1048576)
    (hroom : 1048576 - len < 8 * n) :
    Calls Try.prog 48 #[.pointer (some ⟨p, 0, none⟩), .slice ao n cap] w fun e w' => Refused p h (.slice ao0 len cap0) 6 w e w' :=
  (int_full p h ao0 len cap0 ao n cap w H hl hroom).mono fun e w' ⟨he, hw⟩ => by subst he; subst hw; exact Refused.of H 6

theorem texts_le (ss : List (List UInt8)) (h : ∀ j (h : j < ss.length), ss[j].length ≤ 65535) : (texts ss).length ≤ 65537 * ss.length := by
  induction ss with
  | nil => simp [texts]
  | cons s r ih =>
    have h0 := h 0 (by simp)
    have ih' := ih (fun j hj => h (j + 1) (by simp; omega))
    simp only [texts, List.flatMap_cons, List.length_append, text_length, List.length_cons, List.getElem_cons_zero] at *
    omega

set_option maxHeartbeats 2000000 in
theorem text_big (p h : Nat) (ao0 : Option Addr) (len cap0 : Nat) (ao : Option Addr) (n cap : Nat) (ss : List (List UInt8)) (w : World) (H : WrE w p h (.slice ao0 len cap0) 0) (hl : len ≤ 1048576) (hn : ss.length = n) (hm : n ≤ 8796093022208)
    (hS0 : Ss w ao ss) (J : Nat) (hJ : J < ss.length) (hJb : 65535 < ss[J].length) (hJm : ss[J].length ≤ 9223372036854775807) (hall : ∀ j (h : j < J), (ss[j]'(by omega)).length ≤ 65535) :
    Calls Try.prog 49 #[.pointer (some ⟨p, 0, none⟩), .slice ao n cap] w fun e w' => Refused p h (.slice ao0 len cap0) 6 w e w' := by
  have HR := Refused.of H 6
  have H6 := H.set1 6
  obtain ⟨d0, d1, g0, g1⟩ := cells2 H6.hh
  have dp := cell_of_one H6.hp
  obtain ⟨c0, c1, f0, f1⟩ := cells2 H.hh
  have cp := cell_of_one H.hp
  obtain ⟨b, off, rfl, hc⟩ : ∃ b off, ao = some ⟨b, off, none⟩ ∧ ∀ j (h : j < ss.length), w.cell? ⟨b, off + j, none⟩ = some (.string ⟨ss[j].toArray⟩) := by
    rcases hS0 with rfl | h
    · simp at hJ
    · exact h
  go_enter Try.func49, Try.ntmps49
  go_wp2_with fail
  refine (made_any p h _ 0 w H).mono ?_
  rintro e w1 ⟨rfl, hw⟩
  subst hw
  go_wp2
  go_loop [5, 15] (fun sz i => ∃ k : Nat, k ≤ J ∧ i = .int .i64 k ∧ sz = .int .i64 ((texts (ss.take k)).length : Nat)) (fun _ i => n - (intOf i).toNat)
  case atStart => exact ⟨0, Nat.zero_le _, rfl, rfl⟩
  case round =>
    obtain ⟨k, hk, rfl, rfl⟩ := hrel
    have hck := hc k (by omega)
    have htk : (texts (ss.take k)).length ≤ 65537 * n := by
      have := texts_le (ss.take k) (fun j hj => by
        have hj' : j < k := by simp at hj; omega
        rw [List.getElem_take]; exact hall j (by omega))
      simp only [List.length_take] at this
      omega
    have hlt : k < n := by omega
    by_cases hkJ : k < J
    · have hak := hall k hkJ
      have HS : Hid ((texts (ss.take (k + 1))).length = (texts (ss.take k)).length + (2 + (ss[k]'(by omega)).length)) := hid (by rw [texts_snoc _ _ (by omega), List.length_append, text_length])
      generalize ss[k]'(by omega) = s at hck hak HS
      generalize (texts (ss.take k)).length = T at htk HS
      clear hc hall
      go_wp2
      go_round
      case rel => exact ⟨k + 1, by omega, by go_num, by rw [HS.out]; go_num⟩
      case measure => simp [intOf]; omega
    · obtain rfl : k = J := by omega
      generalize ss[k]'hJ = s at hck hJb hJm
      generalize (texts (ss.take k)).length = T at htk
      clear hc hall
      by_cases hT : T ≤ 1048576 - len
      · go_wp2_with (first
          | (go_at_call 68; refine (fail_any p h _ 0 6 _ H).mono ?_; rintro e w' ⟨rfl, hw⟩; rw [if_pos rfl] at hw; subst hw)
          | (go_at_call 65; refine (needRoom_ok p h ao0 len cap0 6 _ 1 _ H6 hl (by decide) (by decide) (by omega)).mono ?_; rintro e w' ⟨rfl, hw⟩; rw [hw]; clear hw)
          | (go_at_call 67; refine (endCall_any p h _ 6 _ H6).mono ?_; rintro e w' ⟨rfl, hw⟩; subst hw))
        go_ret
        exact HR
      · go_wp2_with (first
          | (go_at_call 68; refine (fail_any p h _ 0 6 _ H).mono ?_; rintro e w' ⟨rfl, hw⟩; rw [if_pos rfl] at hw; subst hw)
          | (go_at_call 65; refine (needRoom_no p h ao0 len cap0 6 _ 1 _ H6 hl (by decide) (by decide) (by omega)).mono ?_; rintro e w' ⟨rfl, hw⟩; rw [if_neg (by decide)] at hw; rw [hw]; clear hw)
          | (go_at_call 67; refine (endCall_any p h _ 6 _ H6).mono ?_; rintro e w' ⟨rfl, hw⟩; subst hw))
        go_ret
        exact HR

set_option maxHeartbeats 2000000 in
theorem text_full (p h : Nat) (ao0 : Option Addr) (len cap0 : Nat) (ao : Option Addr) (n cap : Nat) (ss : List (List UInt8)) (w : World) (H : WrE w p h (.slice ao0 len cap0) 0) (hl : len ≤ 1048576) (hn : ss.length = n) (hm : n ≤ 8796093022208)
    (hS0 : Ss w ao ss) (hall : ∀ j (h : j < ss.length), ss[j].length ≤ 65535) (hroom : 1048576 - len < (texts ss).length) :
    Calls Try.prog 49 #[.pointer (some ⟨p, 0, none⟩), .slice ao n cap] w fun e w' => Refused p h (.slice ao0 len cap0) 6 w e w' := by
  have HR := Refused.of H 6
  have H6 := H.set1 6
  obtain ⟨d0, d1, g0, g1⟩ := cells2 H6.hh
  have dp := cell_of_one H6.hp
  go_enter Try.func49, Try.ntmps49
  go_wp2_with fail
  refine (made_any p h _ 0 w H).mono ?_
  rintro e w1 ⟨rfl, hw⟩
  subst hw
  go_wp2
  go_loop [5, 15] (fun sz i => ∃ k : Nat, k ≤ n ∧ i = .int .i64 k ∧ sz = .int .i64 ((texts (ss.take k)).length : Nat)) (fun _ i => n - (intOf i).toNat)
  case atStart => exact ⟨0, Nat.zero_le _, rfl, rfl⟩
  case round =>
    obtain ⟨k, hk, rfl, rfl⟩ := hrel
    have htk : (texts (ss.take k)).length ≤ 65537 * n := by
      have := texts_le ss hall
      have := texts_take_le ss k
      omega
    by_cases hlt : k < n
    · rcases hS0 with hS0 | ⟨b, off, rfl, hc⟩
      · subst hS0; simp at hn; omega
      · have hck := hc k (by omega)
        have hak := hall k (by omega)
        have HS : Hid ((texts (ss.take (k + 1))).length = (texts (ss.take k)).length + (2 + (ss[k]'(by omega)).length)) := hid (by rw [texts_snoc _ _ (by omega), List.length_append, text_length])
        generalize ss[k]'(by omega) = s at hck hak HS
        generalize (texts (ss.take k)).length = T at htk HS
        clear hc hall
        go_wp2
        go_round
        case rel => exact ⟨k + 1, by omega, by go_num, by rw [HS.out]; go_num⟩
        case measure => simp [intOf]; omega
    · have e : ss.take k = ss := List.take_of_length_le (by omega)
      rw [e] at htk ⊢
      generalize (texts ss).length = T at htk hroom
      clear hall e
      go_wp2_with (first
        | (go_at_call 65; refine (needRoom_no p h ao0 len cap0 0 _ 1 _ H hl (by decide) (by decide) (by omega)).mono ?_; rintro e w' ⟨rfl, hw⟩; rw [if_pos rfl] at hw; subst hw)
        | (go_at_call 67; refine (endCall_any p h _ 6 _ H6).mono ?_; rintro e w' ⟨rfl, hw⟩; subst hw))
      go_ret
      exact HR

end Go.Proofs.Ytcjakgogdbfagaa
namespace Go.Proofs.Ytcjakgogdbfagaa
open Go.RowKit

def badByte (n : Int) : Bool := decide (n < 0) || decide (255 < n)
/-- What a call comes to: the error, and the bytes behind it. -/
def moreOut (ys xs : List UInt8) : Int × List UInt8 := if 1048576 < xs.length + ys.length then (6, xs) else (0, xs ++ ys)
def byteOut (ns : List Int) (xs : List UInt8) : Int × List UInt8 := if ns.any badByte then (11, xs) else moreOut (byts ns) xs
def intOut (ns : List Int) (xs : List UInt8) : Int × List UInt8 := moreOut (ints ns) xs
def bigText (s : List UInt8) : Bool := decide (65535 < s.length)
def textOut (ss : List (List UInt8)) (xs : List UInt8) : Int × List UInt8 := if ss.any bigText then (6, xs) else moreOut (texts ss) xs
theorem moreOut_len (ys xs : List UInt8) (h : xs.length ≤ 1048576) : (moreOut ys xs).2.length ≤ 1048576 := by
  unfold moreOut
  split
  · exact h
  · rw [List.length_append]; omega
theorem byteOut_len (ns : List Int) (xs : List UInt8) (h : xs.length ≤ 1048576) : (byteOut ns xs).2.length ≤ 1048576 := by
  unfold byteOut
  split
  · exact h
  · exact moreOut_len _ _ h
theorem textOut_len (ss : List (List UInt8)) (xs : List UInt8) (h : xs.length ≤ 1048576) : (textOut ss xs).2.length ≤ 1048576 := by
  unfold textOut
  split
  · exact h
  · exact moreOut_len _ _ h
theorem badByte_false {n : Int} : badByte n = false ↔ 0 ≤ n ∧ n ≤ 255 := by
  unfold badByte
  simp only [Bool.or_eq_false_iff, decide_eq_false_iff_not]
  omega
theorem none_bad {ns : List Int} (h : ns.any badByte = false) : ∀ j (hj : j < ns.length), 0 ≤ ns[j] ∧ ns[j] ≤ 255 := fun j hj => by
  have := List.any_eq_false.1 h ns[j] (List.getElem_mem hj)
  exact badByte_false.1 (by simpa using this)
theorem none_big {ss : List (List UInt8)} (h : ss.any bigText = false) : ∀ j (hj : j < ss.length), ss[j].length ≤ 65535 := fun j hj => by
  have := List.any_eq_false.1 h ss[j] (List.getElem_mem hj)
  unfold bigText at this
  simp only [decide_eq_true_eq] at this
  omega
theorem some_big {ss : List (List UInt8)} (h : ss.any bigText = true) : ∃ J, ∃ hJ : J < ss.length, 65535 < ss[J].length ∧ ∀ j (h : j < J), (ss[j]'(by omega)).length ≤ 65535 := by
  have key : ∀ m, m ≤ ss.length → (∀ j (h : j < ss.length), j < m → ss[j].length ≤ 65535) ∨ ∃ J, ∃ hJ : J < ss.length, 65535 < ss[J].length ∧ ∀ j (h : j < J), (ss[j]'(by omega)).length ≤ 65535 := by
    intro m
    induction m with
    | zero => intro _; exact .inl (fun _ _ h => by omega)
    | succ m ih =>
      intro hmm
      rcases ih (by omega) with h | h
      · by_cases hs : (ss[m]'(by omega)).length ≤ 65535
        · left
          intro j hj hjm
          by_cases e : j = m
          · subst e; exact hs
          · exact h j hj (by omega)
        · exact .inr ⟨m, by omega, by omega, fun j hj => h j (by omega) hj⟩
      · exact .inr h
  rcases key ss.length (Nat.le_refl _) with h1 | h1
  · obtain ⟨x, hx, hb⟩ := List.any_eq_true.1 h
    obtain ⟨i, hi, rfl⟩ := List.getElem_of_mem hx
    have := h1 i hi hi
    unfold bigText at hb
    simp only [decide_eq_true_eq] at hb
    omega
  · exact h1

/-- The sentence of a call: base, bytes and step. -/
def ToldW (p h base : Nat) (v : Value) (out : Int × List UInt8) (w : World) (e : Ending) (w' : World) : Prop :=
  ∃ v', e = .returned (.int .i64 out.1) ∧ WrE w' p h v' 0 ∧ OwnB w' base v' out.2 ∧ WStep h w v w' v'
theorem ToldW.refused {p h base : Nat} {v : Value} {xs : List UInt8} {code : Int} {w : World} {e : Ending} {w' : World} (R : Refused p h v code w e w') (H : WrE w p h v 0) (hO : OwnB w base v xs) : ToldW p h base v (code, xs) w e w' := by
  obtain ⟨rfl, H', hc⟩ := R
  exact ⟨v, rfl, H', Own.chg hO hc (fun g hg e => (H.apart hO).2 (by rw [hg, e])), hc.mono (fun i _ e => .inl e), .inl rfl⟩

theorem wint_all (p h base : Nat) (v : Value) (xs : List UInt8) (ao : Option Addr) (n cap : Nat) (ns : List Int) (w : World) (H : WrE w p h v 0) (hO : OwnB w base v xs) (hbase : base ≤ w.heap.size) (hl : xs.length ≤ 1048576) (hn : ns.length = n)
    (hI : ∀ w', Chg w w' (WSet h v) → Is w' ao ns) :
    Calls Try.prog 48 #[.pointer (some ⟨p, 0, none⟩), .slice ao n cap] w (ToldW p h base v (intOut ns xs) w) := by
  unfold intOut moreOut
  rw [ints_length]
  obtain ⟨ao0, cap0, rfl, _⟩ := Own.bs hO
  split
  · exact (int_no p h ao0 xs.length cap0 ao n cap w H hl (by omega)).mono fun e w' R => ToldW.refused R H hO
  · exact int_ok p h base _ xs ao n cap ns w H hO hbase hl hn hI (by omega)
theorem wtext_all (p h base : Nat) (v : Value) (xs : List UInt8) (ao : Option Addr) (n cap : Nat) (ss : List (List UInt8)) (w : World) (H : WrE w p h v 0) (hO : OwnB w base v xs) (hbase : base ≤ w.heap.size) (hl : xs.length ≤ 1048576) (hn : ss.length = n)
    (hI : ∀ w', Chg w w' (WSet h v) → Ss w' ao ss) (hm : n ≤ 1048576) (hrM : ∀ j (h : j < ss.length), ss[j].length ≤ 9223372036854775807) :
    Calls Try.prog 49 #[.pointer (some ⟨p, 0, none⟩), .slice ao n cap] w (ToldW p h base v (textOut ss xs) w) := by
  have hS := hI w (Chg.refl _ _)
  obtain ⟨ao0, cap0, rfl, _⟩ := Own.bs hO
  cases hb : ss.any bigText with
  | true =>
    unfold textOut
    rw [if_pos hb]
    obtain ⟨J, hJ, hJb, hJl⟩ := some_big hb
    exact (text_big p h ao0 xs.length cap0 ao n cap ss w H hl hn (by omega) hS J hJ hJb (hrM J hJ) hJl).mono fun e w' R => ToldW.refused R H hO
  | false =>
    have hall := none_big hb
    unfold textOut moreOut
    rw [if_neg (by rw [hb]; decide)]
    split
    · exact (text_full p h ao0 xs.length cap0 ao n cap ss w H hl hn (by omega) hS hall (by omega)).mono fun e w' R => ToldW.refused R H hO
    · exact text_ok p h base _ xs ao n cap ss w H hO hbase hl hn (by omega) hI hall (by omega)

end Go.Proofs.Ytcjakgogdbfagaa
