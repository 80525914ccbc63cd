/- A Writer's three calls, each in one sentence: what is told, and what is written then. -/
import Derived.Test.YtmaecpmdikdclaaWI
namespace Go.Proofs.Ytmaecpmdikdclaa
open Go.RowKit

def badByte (n : Int) : Bool := decide (n < 0) || decide (255 < n)
/-- What a call comes to: the error, and the bytes behind it. -/
def moreOut (ys xs : List UInt8) : Int × List UInt8 := if 1048576 < xs.length + ys.length then (6, xs) else (0, xs ++ ys)
def byteOut (ns : List Int) (xs : List UInt8) : Int × List UInt8 := if ns.any badByte then (11, xs) else moreOut (byts ns) xs
def intOut (ns : List Int) (xs : List UInt8) : Int × List UInt8 := moreOut (ints ns) xs
def bigText (s : List UInt8) : Bool := decide (65535 < s.length)
def textOut (ss : List (List UInt8)) (xs : List UInt8) : Int × List UInt8 := if ss.any bigText then (6, xs) else moreOut (texts ss) xs
theorem moreOut_len (ys xs : List UInt8) (h : xs.length ≤ 1048576) : (moreOut ys xs).2.length ≤ 1048576 := by
  unfold moreOut
  split
  · exact h
  · rw [List.length_append]; omega
theorem byteOut_len (ns : List Int) (xs : List UInt8) (h : xs.length ≤ 1048576) : (byteOut ns xs).2.length ≤ 1048576 := by
  unfold byteOut
  split
  · exact h
  · exact moreOut_len _ _ h
theorem textOut_len (ss : List (List UInt8)) (xs : List UInt8) (h : xs.length ≤ 1048576) : (textOut ss xs).2.length ≤ 1048576 := by
  unfold textOut
  split
  · exact h
  · exact moreOut_len _ _ h
theorem badByte_false {n : Int} : badByte n = false ↔ 0 ≤ n ∧ n ≤ 255 := by
  unfold badByte
  simp only [Bool.or_eq_false_iff, decide_eq_false_iff_not]
  omega
theorem none_bad {ns : List Int} (h : ns.any badByte = false) : ∀ j (hj : j < ns.length), 0 ≤ ns[j] ∧ ns[j] ≤ 255 := fun j hj => by
  have := List.any_eq_false.1 h ns[j] (List.getElem_mem hj)
  exact badByte_false.1 (by simpa using this)
theorem none_big {ss : List (List UInt8)} (h : ss.any bigText = false) : ∀ j (hj : j < ss.length), ss[j].length ≤ 65535 := fun j hj => by
  have := List.any_eq_false.1 h ss[j] (List.getElem_mem hj)
  unfold bigText at this
  simp only [decide_eq_true_eq] at this
  omega
theorem some_big {ss : List (List UInt8)} (h : ss.any bigText = true) : ∃ J, ∃ hJ : J < ss.length, 65535 < ss[J].length ∧ ∀ j (h : j < J), (ss[j]'(by omega)).length ≤ 65535 := by
  have key : ∀ m, m ≤ ss.length → (∀ j (h : j < ss.length), j < m → ss[j].length ≤ 65535) ∨ ∃ J, ∃ hJ : J < ss.length, 65535 < ss[J].length ∧ ∀ j (h : j < J), (ss[j]'(by omega)).length ≤ 65535 := by
    intro m
    induction m with
    | zero => intro _; exact .inl (fun _ _ h => by omega)
    | succ m ih =>
      intro hmm
      rcases ih (by omega) with h | h
      · by_cases hs : (ss[m]'(by omega)).length ≤ 65535
        · left
          intro j hj hjm
          by_cases e : j = m
          · subst e; exact hs
          · exact h j hj (by omega)
        · exact .inr ⟨m, by omega, by omega, fun j hj => h j (by omega) hj⟩
      · exact .inr h
  rcases key ss.length (Nat.le_refl _) with h1 | h1
  · obtain ⟨x, hx, hb⟩ := List.any_eq_true.1 h
    obtain ⟨i, hi, rfl⟩ := List.getElem_of_mem hx
    have := h1 i hi hi
    unfold bigText at hb
    simp only [decide_eq_true_eq] at hb
    omega
  · exact h1

/-- The sentence of a call: base, bytes and step. -/
def ToldW (p h base : Nat) (v : Value) (out : Int × List UInt8) (w : World) (e : Ending) (w' : World) : Prop :=
  ∃ v', e = .returned (.int .i64 out.1) ∧ WrE w' p h v' 0 ∧ OwnB w' base v' out.2 ∧ WStep h w v w' v'
theorem ToldW.refused {p h base : Nat} {v : Value} {xs : List UInt8} {code : Int} {w : World} {e : Ending} {w' : World} (R : Refused p h v code w e w') (H : WrE w p h v 0) (hO : OwnB w base v xs) : ToldW p h base v (code, xs) w e w' := by
  obtain ⟨rfl, H', hc⟩ := R
  exact ⟨v, rfl, H', Own.chg hO hc (fun g hg e => (H.apart hO).2 (by rw [hg, e])), hc.mono (fun i _ e => .inl e), .inl rfl⟩

theorem wint_all (p h base : Nat) (v : Value) (xs : List UInt8) (ao : Option Addr) (n cap : Nat) (ns : List Int) (w : World) (H : WrE w p h v 0) (hO : OwnB w base v xs) (hbase : base ≤ w.heap.size) (hl : xs.length ≤ 1048576) (hn : ns.length = n)
    (hI : ∀ w', Chg w w' (WSet h v) → Is w' ao ns) :
    Calls Try.prog 38 #[.pointer (some ⟨p, 0, none⟩), .slice ao n cap] w (ToldW p h base v (intOut ns xs) w) := by
  unfold intOut moreOut
  rw [ints_length]
  obtain ⟨ao0, cap0, rfl, _⟩ := Own.bs hO
  split
  · exact (int_no p h ao0 xs.length cap0 ao n cap w H hl (by omega)).mono fun e w' R => ToldW.refused R H hO
  · exact int_ok p h base _ xs ao n cap ns w H hO hbase hl hn hI (by omega)
theorem wtext_all (p h base : Nat) (v : Value) (xs : List UInt8) (ao : Option Addr) (n cap : Nat) (ss : List (List UInt8)) (w : World) (H : WrE w p h v 0) (hO : OwnB w base v xs) (hbase : base ≤ w.heap.size) (hl : xs.length ≤ 1048576) (hn : ss.length = n)
    (hI : ∀ w', Chg w w' (WSet h v) → Ss w' ao ss) (hm : n ≤ 1048576) (hrM : ∀ j (h : j < ss.length), ss[j].length ≤ 9223372036854775807) :
    Calls Try.prog 84 #[.pointer (some ⟨p, 0, none⟩), .slice ao n cap] w (ToldW p h base v (textOut ss xs) w) := by
  have hS := hI w (Chg.refl _ _)
  obtain ⟨ao0, cap0, rfl, _⟩ := Own.bs hO
  cases hb : ss.any bigText with
  | true =>
    unfold textOut
    rw [if_pos hb]
    obtain ⟨J, hJ, hJb, hJl⟩ := some_big hb
    exact (text_big p h ao0 xs.length cap0 ao n cap ss w H hl hn (by omega) hS J hJ hJb (hrM J hJ) hJl).mono fun e w' R => ToldW.refused R H hO
  | false =>
    have hall := none_big hb
    unfold textOut moreOut
    rw [if_neg (by rw [hb]; decide)]
    split
    · exact (text_full p h ao0 xs.length cap0 ao n cap ss w H hl hn (by omega) hS hall (by omega)).mono fun e w' R => ToldW.refused R H hO
    · exact text_ok p h base _ xs ao n cap ss w H hO hbase hl hn (by omega) hI hall (by omega)

set_option maxHeartbeats 2000000 in
theorem byte_range (p h : Nat) (ao0 : Option Addr) (len cap0 : Nat) (ao : Option Addr) (n cap : Nat) (ns : List Int) (w : World) (H : WrE w p h (.slice ao0 len cap0) 0) (hl : len ≤ 1048576) (hn : ns.length = n) (hm : n ≤ 1048576)
    (hI : ∀ w', Chg w w' (fun k => k = h) → Is w' ao ns) (hbad : ns.any badByte = true) :
    Calls Try.prog 37 #[.pointer (some ⟨p, 0, none⟩), .slice ao n cap] w fun e w' => Refused p h (.slice ao0 len cap0) 11 w e w' := by
  go_enter Try.func37, Try.ntmps37
  go_wp2_with fail
  refine (made_any p h _ 0 w H).mono ?_
  rintro e w1 ⟨rfl, hw⟩
  replace hw := hw.symm
  subst hw
  have HB : Hid (ns.any badByte = true) := hbad
  clear hbad
  go_wp2
  go_loopw [14] (fun i wr => ∃ (k : Nat) (err : Int), k ≤ n ∧ i = .int .i64 k ∧ WrE wr p h (.slice ao0 len cap0) err ∧ Chg w wr (fun k => k = h) ∧ err = (if (ns.take k).any badByte then 11 else 0)) (fun i _ => n - (intOf i).toNat)
  case atStart => exact ⟨0, 0, Nat.zero_le _, rfl, H, Chg.refl _ _, by simp⟩
  case round =>
    obtain ⟨k, err, hk, rfl, Hr, hch, herr⟩ := hrel
    by_cases hlt : k < n
    · rcases hI wr hch with hS0 | ⟨b, off, rfl, hc⟩
      · subst hS0; simp at hn; omega
      · have hck := hc k (by omega)
        have HS : Hid ((ns.take (k + 1)).any badByte = ((ns.take k).any badByte || badByte (ns[k]'(by omega)))) := hid (by rw [List.take_succ_eq_append_getElem (by omega), List.any_append]; simp)
        generalize ns[k]'(by omega) = N at hck HS
        generalize (ns.take k).any badByte = B at herr HS
        obtain ⟨c0, c1, f0, f1⟩ := cells2 Hr.hh
        have cp := cell_of_one Hr.hp
        cases hN : badByte N with
        | false =>
          obtain ⟨ha1, ha2⟩ := badByte_false.1 hN
          have d1 : decide (N < 0) = false := by simp; omega
          have d2 : decide (255 < N) = false := by simp; omega
          have HE : Hid (err = if (ns.take (k + 1)).any badByte then 11 else 0) := hid (by rw [HS.out, hN, Bool.or_false]; exact herr)
          clear hc hI herr hN
          go_wp2
          go_roundw
          case rel => exact ⟨k + 1, err, by omega, by go_num, Hr, hch, HE.out⟩
          case measure => simp [intOf]; omega
        | true =>
          have HW : Hid (∀ w', w' = (if err = 0 then wr.setCell ⟨h, 1, none⟩ (.int .i64 11) else wr) → WrE w' p h (.slice ao0 len cap0) 11 ∧ Chg w w' (fun k => k = h)) := hid (by
            rintro w' rfl
            cases B with
            | true =>
              have : err = 11 := by simpa using herr
              subst this
              rw [if_neg (by decide)]
              exact ⟨Hr, hch⟩
            | false =>
              have : err = 0 := by simpa using herr
              subst this
              rw [if_pos rfl]
              exact ⟨Hr.set1 11, hch.trans (Chg.setCell wr ⟨h, 1, none⟩ _) (fun _ _ e => e)⟩)
          have HE : Hid (11 = if (ns.take (k + 1)).any badByte then (11 : Int) else 0) := hid (by rw [HS.out, hN, Bool.or_true]; rfl)
          have hor : N < 0 ∨ 255 < N := by
            unfold badByte at hN
            simpa using hN
          clear hc hI herr hN
          by_cases hneg : N < 0
          · have d1 : decide (N < 0) = true := by simp; omega
            go_wp2_with (go_at_call 62; refine (fail_any p h _ err 11 wr Hr).mono ?_; rintro e w2 ⟨rfl, hw2⟩; obtain ⟨H2, hc2⟩ := HW.out w2 hw2; clear hw2)
            go_roundw
            case rel => exact ⟨k + 1, 11, by omega, by go_num, H2, hc2, HE.out⟩
            case measure => simp [intOf]; omega
          · have d1 : decide (N < 0) = false := by simp; omega
            have d2 : decide (255 < N) = true := by simp; omega
            go_wp2_with (go_at_call 62; refine (fail_any p h _ err 11 wr Hr).mono ?_; rintro e w2 ⟨rfl, hw2⟩; obtain ⟨H2, hc2⟩ := HW.out w2 hw2; clear hw2)
            go_roundw
            case rel => exact ⟨k + 1, 11, by omega, by go_num, H2, hc2, HE.out⟩
            case measure => simp [intOf]; omega
    · have HE : err = 11 := by
        rw [List.take_of_length_le (by omega), HB.out] at herr
        simpa using herr
      subst HE
      have hend : Refused p h (.slice ao0 len cap0) 11 w (.returned (.int .i64 11)) (wr.setCell ⟨h, 1, none⟩ (.int .i64 0)) := ⟨rfl, Hr.set1 0, hch.trans (Chg.setCell wr ⟨h, 1, none⟩ _) (fun _ _ e => e)⟩
      have HR : Hid _ := hid hend
      obtain ⟨c0, c1, f0, f1⟩ := cells2 Hr.hh
      have cp := cell_of_one Hr.hp
      clear hend herr hI
      by_cases hroom : (1048576 - (len : Int)) / 1 < n
      · go_wp2_with (first
          | (go_at_call 63; refine (needRoom_no p h ao0 len cap0 11 _ 1 _ Hr hl (by decide) (by decide) hroom).mono ?_; rintro e w' ⟨rfl, hw⟩; rw [if_neg (by decide)] at hw; replace hw := hw.symm; subst hw)
          | (go_at_call 64; refine (endCall_any p h _ 11 _ Hr).mono ?_; rintro e w' ⟨rfl, hw⟩; replace hw := hw.symm; subst hw))
        go_ret
        exact HR.out
      · go_wp2_with (first
          | (go_at_call 63; refine (needRoom_ok p h ao0 len cap0 11 _ 1 _ Hr hl (by decide) (by decide) hroom).mono ?_; rintro e w' ⟨rfl, hw⟩; replace hw := hw.symm; subst hw)
          | (go_at_call 64; refine (endCall_any p h _ 11 _ Hr).mono ?_; rintro e w' ⟨rfl, hw⟩; replace hw := hw.symm; subst hw))
        go_ret
        exact HR.out
theorem wbyte_all (p h base : Nat) (v : Value) (xs : List UInt8) (ao : Option Addr) (n cap : Nat) (ns : List Int) (w : World) (H : WrE w p h v 0) (hO : OwnB w base v xs) (hbase : base ≤ w.heap.size) (hl : xs.length ≤ 1048576) (hn : ns.length = n)
    (hI : ∀ w', Chg w w' (WSet h v) → Is w' ao ns) (hm : n ≤ 1048576) :
    Calls Try.prog 37 #[.pointer (some ⟨p, 0, none⟩), .slice ao n cap] w (ToldW p h base v (byteOut ns xs) w) := by
  have hS := hI w (Chg.refl _ _)
  obtain ⟨ao0, cap0, rfl, _⟩ := Own.bs hO
  cases hb : ns.any badByte with
  | true =>
    unfold byteOut
    rw [if_pos hb]
    exact (byte_range p h ao0 xs.length cap0 ao n cap ns w H hl hn hm (fun w' hc => hI w' (hc.mono (fun i _ e => .inl e))) hb).mono fun e w' R => ToldW.refused R H hO
  | false =>
    have hall := none_bad hb
    unfold byteOut moreOut
    rw [if_neg (by rw [hb]; decide), byts_length]
    split
    · exact (byte_full p h ao0 xs.length cap0 ao n cap ns w H hl hn (by omega) hS hall (by omega)).mono fun e w' R => ToldW.refused R H hO
    · exact byte_ok p h base _ xs ao n cap ns w H hO hbase hl hn (by omega) hI hall (by omega)
end Go.Proofs.Ytmaecpmdikdclaa
