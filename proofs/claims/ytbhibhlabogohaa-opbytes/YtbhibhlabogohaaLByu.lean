/- The walk of OpBytes: what is too long. -/
import Derived.Test.YtbhibhlabogohaaLByt
import Derived.Test.YtbhibhlabogohaaOP
import Derived.Test.YtbhibhlabogohaaOKo
import Derived.Deep.Cut
namespace Go.Proofs.Ytbhibhlabogohaa
open Go.RowKit
attribute [local go_sem high] eq_val eq_val0 field_n field_b
set_option maxHeartbeats 4000000 in
set_option maxRecDepth 100000 in
theorem bytes_two (a b : List UInt8) (n er : Int) (hl : 256 < a.length + b.length) (ga : a.length ≤ 256) (gb : b.length ≤ 256) (hap : applyV 33 [⟨2, 0, a⟩, ⟨2, 0, b⟩] = ([], er)) (her : er = 41 ∨ er = 1) (h0 : -9223372036854775808 ≤ n) (h1 : n ≤ 9223372036854775807) (w : World) : Calls Try.prog 7 #[.string ⟨a.toArray⟩, .string ⟨b.toArray⟩, .int .i64 n] w fun e w' => e = .returned (.bool true) ∧ Below w.heap.size w w' := by
  have hJ := fun W p hV => apply_any 33 p 2 2 [⟨2, 0, a⟩, ⟨2, 0, b⟩] rfl W hV (fair_of (by simp; omega)) (by decide)
  rw [hap] at hJ
  have g1 : ¬ (b.length : Int) ≤ 256 - (a.length : Int) := by omega
  have g1' : 256 - (a.length : Int) < (b.length : Int) := by omega
  have gb' : (b.length : Int) ≤ 256 := by omega
  have hP := fun W p hV => apply_any 38 p 1 1 [⟨1, n, []⟩] rfl W hV (fair_of (by simp)) (by decide)
  have hU := fun W p hV => apply_any 39 p 1 1 [⟨2, 0, packV n⟩] rfl W hV (fair_of (by simp [pack_length])) (by decide)
  rw [apply_pack] at hP
  rw [apply_unpack h0 h1] at hU
  have hpk := pack_length n
  generalize packV n = pk at *
  have hL1 := fun W p hV => apply_any 37 p 2 2 [⟨2, 0, a⟩, ⟨2, 0, b⟩] rfl W hV (fair_of (by simp; omega)) (by decide)
  have hL2 := fun W p hV => apply_any 37 p 2 2 [⟨2, 0, b⟩, ⟨2, 0, a⟩] rfl W hV (fair_of (by simp; omega)) (by decide)
  have hL3 := fun W p hV => apply_any 36 p 2 2 [⟨2, 0, a⟩, ⟨2, 0, b⟩] rfl W hV (fair_of (by simp; omega)) (by decide)
  rw [apply_less ga gb] at hL1
  rw [apply_less gb ga] at hL2
  rw [apply_same ga gb] at hL3
  obtain ⟨x0', x1', y0', y1', z0', z1', hsum⟩ : 0 ≤ lessN a b ∧ lessN a b ≤ 1 ∧ 0 ≤ lessN b a ∧ lessN b a ≤ 1 ∧ 0 ≤ sameN a b ∧ sameN a b ≤ 1 ∧ (lessN a b + lessN b a + sameN a b == 1) = true := by
    rcases one_of a b with ⟨e1, e2, e3⟩ | ⟨e1, e2, e3⟩ | ⟨e1, e2, e3⟩ <;> simp [e1, e2, e3]
  generalize lessN a b = X at *
  generalize lessN b a = Y at *
  generalize sameN a b = Z at *
  clear hap
  rcases her with rfl | rfl
  · go_enter Try.func7, Try.ntmps7
    go_wp2_with (go_at_call 34; refine (text_any' _ _).mono ?_; rintro e w' ⟨rfl, rfl⟩; simp only [Val.box, Val.v])
    refine (hJ _ _ (vs_two ((w.alloc (Val.box ⟨2, 0, a⟩)).alloc (Val.box ⟨2, 0, b⟩)) ⟨2, 0, a⟩ ⟨2, 0, b⟩ (w.heap.size + 1 + 1) (by simp))).mono ?_
    rintro e w5 ⟨v1, rfl, hs1, hb5⟩
    obtain ⟨a1, rfl⟩ := slv_none hs1
    replace hb5 := after3 hb5
    clear hs1 hJ
    go_wp2_with (go_at_call 29; refine (num3_any _ _).mono ?_; rintro e w' ⟨rfl, hw'⟩; replace hw' := hw'.symm; subst hw')
    refine (number_any' n _).mono ?_
    rintro e w' ⟨rfl, rfl⟩
    simp only [Val.box, Val.v]
    go_wp2_with fail
    refine (hP _ _ (vs_one' (w5.alloc (Val.box ⟨1, n, []⟩)) ⟨1, n, []⟩ (w5.heap.size + 1) (by simp))).mono ?_
    rintro e w6 ⟨v6, rfl, hs6, hb6⟩
    obtain ⟨b6, off6, rfl, s0, s1, s2⟩ := slv_one hs6
    replace hb6 := hb5.trans ((after2 hb6).mono hb5.size)
    simp only at s0 s1 s2
    clear hs6 hP
    go_wp2_with (go_at_call 29; refine (num3_any _ _).mono ?_; rintro e w' ⟨rfl, hw'⟩; replace hw' := hw'.symm; subst hw')
    refine (hU _ _ (vs_one' w6 ⟨2, 0, pk⟩ w6.heap.size rfl)).mono ?_
    rintro e w7 ⟨v7, rfl, hs7, hb7⟩
    obtain ⟨b7, off7, rfl, t0, t1, t2⟩ := slv_one hs7
    replace hb7 := after1 hb7
    replace s0 := cell_below s0 hb7
    replace s1 := cell_below s1 hb7
    replace s2 := cell_below s2 hb7
    replace hb7 := hb6.trans (hb7.mono hb6.size)
    have hq := one_any b7 off7 1 ⟨1, n, []⟩ w7 t0 t1 t2
    simp only [Val.v] at hq
    clear hs7 hU t0 t1 t2
    go_wp2_with (first | (go_at_call 29; refine (num3_any _ _).mono ?_; rintro e w' ⟨rfl, hw'⟩; replace hw' := hw'.symm; subst hw') | (go_at_call 33; refine hq.mono ?_; rintro e w8 ⟨rfl, hb8⟩; replace s0 := cell_below s0 hb8; replace s1 := cell_below s1 hb8; replace s2 := cell_below s2 hb8; replace hb8 := hb7.trans (hb8.mono hb7.size)) | (go_at_call 24; refine (knows3_any _).mono ?_; rintro e w9 ⟨rfl, hb9⟩; replace hb9 := hb8.trans (hb9.mono hb8.size)))
    clear s0 s1 s2 hq
    refine (text_any' a _).mono ?_
    rintro e w' ⟨rfl, rfl⟩
    simp only [Val.box, Val.v]
    go_wp2_with (go_at_call 34; refine (text_any' _ _).mono ?_; rintro e w' ⟨rfl, rfl⟩; simp only [Val.box, Val.v])
    refine (hL1 _ _ (vs_two ((w9.alloc (Val.box ⟨2, 0, a⟩)).alloc (Val.box ⟨2, 0, b⟩)) ⟨2, 0, a⟩ ⟨2, 0, b⟩ (w9.heap.size + 1 + 1) (by simp))).mono ?_
    rintro e w10 ⟨v10, rfl, hs10, hb10⟩
    obtain ⟨b10, off10, rfl, x0, x1, x2⟩ := slv_one hs10
    replace hb10 := hb9.trans ((after3 hb10).mono hb9.size)
    clear hs10 hL1
    go_wp2_with (go_at_call 34; refine (text_any' _ _).mono ?_; rintro e w' ⟨rfl, rfl⟩; simp only [Val.box, Val.v])
    refine (hL2 _ _ (vs_two ((w10.alloc (Val.box ⟨2, 0, b⟩)).alloc (Val.box ⟨2, 0, a⟩)) ⟨2, 0, b⟩ ⟨2, 0, a⟩ (w10.heap.size + 1 + 1) (by simp))).mono ?_
    rintro e w11 ⟨v11, rfl, hs11, hb11⟩
    obtain ⟨b11, off11, rfl, y0, y1, y2⟩ := slv_one hs11
    replace hb11 := after3 hb11
    replace x0 := cell_below x0 hb11
    replace x1 := cell_below x1 hb11
    replace x2 := cell_below x2 hb11
    replace hb11 := hb10.trans (hb11.mono hb10.size)
    clear hs11 hL2
    go_wp2_with (go_at_call 34; refine (text_any' _ _).mono ?_; rintro e w' ⟨rfl, rfl⟩; simp only [Val.box, Val.v])
    refine (hL3 _ _ (vs_two ((w11.alloc (Val.box ⟨2, 0, a⟩)).alloc (Val.box ⟨2, 0, b⟩)) ⟨2, 0, a⟩ ⟨2, 0, b⟩ (w11.heap.size + 1 + 1) (by simp))).mono ?_
    rintro e w12 ⟨v12, rfl, hs12, hb12⟩
    obtain ⟨b12, off12, rfl, z0, z1, z2⟩ := slv_one hs12
    replace hb12 := after3 hb12
    have o1 := fun W (hb : Below w12.heap.size w12 W) => one_any b10 off10 1 ⟨3, X, []⟩ W (cell_below (cell_below x0 hb12) hb) (cell_below (cell_below x1 hb12) hb) (cell_below (cell_below x2 hb12) hb)
    have o2 := fun W (hb : Below w12.heap.size w12 W) => one_any b11 off11 1 ⟨3, Y, []⟩ W (cell_below (cell_below y0 hb12) hb) (cell_below (cell_below y1 hb12) hb) (cell_below (cell_below y2 hb12) hb)
    have o3 := fun W (hb : Below w12.heap.size w12 W) => one_any b12 off12 1 ⟨3, Z, []⟩ W (cell_below z0 hb) (cell_below z1 hb) (cell_below z2 hb)
    simp only [Val.v] at o1 o2 o3
    replace hb12 := hb11.trans (hb12.mono hb11.size)
    clear hs12 hL3 x0 x1 x2 y0 y1 y2 z0 z1 z2
    go_wp2_with (go_at_call 29; refine (num3_any _ _).mono ?_; rintro e w' ⟨rfl, hw'⟩; replace hw' := hw'.symm; subst hw')
    refine (o1 _ (Below.refl _ _)).mono ?_
    rintro e w13 ⟨rfl, hk13⟩
    go_wp2_with fail
    refine (o2 _ hk13).mono ?_
    rintro e w14 ⟨rfl, hk14⟩
    replace hk14 := hk13.trans (hk14.mono hk13.size)
    go_wp2_with fail
    refine (o3 _ hk14).mono ?_
    rintro e w15 ⟨rfl, hk15⟩
    replace hk15 := hk14.trans (hk15.mono hk14.size)
    go_wp2
    go_ret
    exact ⟨rfl, hb12.trans (hk15.mono hb12.size)⟩
  · go_enter Try.func7, Try.ntmps7
    go_wp2_with (go_at_call 34; refine (text_any' _ _).mono ?_; rintro e w' ⟨rfl, rfl⟩; simp only [Val.box, Val.v])
    refine (hJ _ _ (vs_two ((w.alloc (Val.box ⟨2, 0, a⟩)).alloc (Val.box ⟨2, 0, b⟩)) ⟨2, 0, a⟩ ⟨2, 0, b⟩ (w.heap.size + 1 + 1) (by simp))).mono ?_
    rintro e w5 ⟨v1, rfl, hs1, hb5⟩
    obtain ⟨a1, rfl⟩ := slv_none hs1
    replace hb5 := after3 hb5
    clear hs1 hJ
    go_wp2_with (go_at_call 29; refine (num3_any _ _).mono ?_; rintro e w' ⟨rfl, hw'⟩; replace hw' := hw'.symm; subst hw')
    refine (number_any' n _).mono ?_
    rintro e w' ⟨rfl, rfl⟩
    simp only [Val.box, Val.v]
    go_wp2_with fail
    refine (hP _ _ (vs_one' (w5.alloc (Val.box ⟨1, n, []⟩)) ⟨1, n, []⟩ (w5.heap.size + 1) (by simp))).mono ?_
    rintro e w6 ⟨v6, rfl, hs6, hb6⟩
    obtain ⟨b6, off6, rfl, s0, s1, s2⟩ := slv_one hs6
    replace hb6 := hb5.trans ((after2 hb6).mono hb5.size)
    simp only at s0 s1 s2
    clear hs6 hP
    go_wp2_with (go_at_call 29; refine (num3_any _ _).mono ?_; rintro e w' ⟨rfl, hw'⟩; replace hw' := hw'.symm; subst hw')
    refine (hU _ _ (vs_one' w6 ⟨2, 0, pk⟩ w6.heap.size rfl)).mono ?_
    rintro e w7 ⟨v7, rfl, hs7, hb7⟩
    obtain ⟨b7, off7, rfl, t0, t1, t2⟩ := slv_one hs7
    replace hb7 := after1 hb7
    replace s0 := cell_below s0 hb7
    replace s1 := cell_below s1 hb7
    replace s2 := cell_below s2 hb7
    replace hb7 := hb6.trans (hb7.mono hb6.size)
    have hq := one_any b7 off7 1 ⟨1, n, []⟩ w7 t0 t1 t2
    simp only [Val.v] at hq
    clear hs7 hU t0 t1 t2
    go_wp2_with (first | (go_at_call 29; refine (num3_any _ _).mono ?_; rintro e w' ⟨rfl, hw'⟩; replace hw' := hw'.symm; subst hw') | (go_at_call 33; refine hq.mono ?_; rintro e w8 ⟨rfl, hb8⟩; replace s0 := cell_below s0 hb8; replace s1 := cell_below s1 hb8; replace s2 := cell_below s2 hb8; replace hb8 := hb7.trans (hb8.mono hb7.size)) | (go_at_call 24; refine (knows3_any _).mono ?_; rintro e w9 ⟨rfl, hb9⟩; replace hb9 := hb8.trans (hb9.mono hb8.size)))
    clear s0 s1 s2 hq
    refine (text_any' a _).mono ?_
    rintro e w' ⟨rfl, rfl⟩
    simp only [Val.box, Val.v]
    go_wp2_with (go_at_call 34; refine (text_any' _ _).mono ?_; rintro e w' ⟨rfl, rfl⟩; simp only [Val.box, Val.v])
    refine (hL1 _ _ (vs_two ((w9.alloc (Val.box ⟨2, 0, a⟩)).alloc (Val.box ⟨2, 0, b⟩)) ⟨2, 0, a⟩ ⟨2, 0, b⟩ (w9.heap.size + 1 + 1) (by simp))).mono ?_
    rintro e w10 ⟨v10, rfl, hs10, hb10⟩
    obtain ⟨b10, off10, rfl, x0, x1, x2⟩ := slv_one hs10
    replace hb10 := hb9.trans ((after3 hb10).mono hb9.size)
    clear hs10 hL1
    go_wp2_with (go_at_call 34; refine (text_any' _ _).mono ?_; rintro e w' ⟨rfl, rfl⟩; simp only [Val.box, Val.v])
    refine (hL2 _ _ (vs_two ((w10.alloc (Val.box ⟨2, 0, b⟩)).alloc (Val.box ⟨2, 0, a⟩)) ⟨2, 0, b⟩ ⟨2, 0, a⟩ (w10.heap.size + 1 + 1) (by simp))).mono ?_
    rintro e w11 ⟨v11, rfl, hs11, hb11⟩
    obtain ⟨b11, off11, rfl, y0, y1, y2⟩ := slv_one hs11
    replace hb11 := after3 hb11
    replace x0 := cell_below x0 hb11
    replace x1 := cell_below x1 hb11
    replace x2 := cell_below x2 hb11
    replace hb11 := hb10.trans (hb11.mono hb10.size)
    clear hs11 hL2
    go_wp2_with (go_at_call 34; refine (text_any' _ _).mono ?_; rintro e w' ⟨rfl, rfl⟩; simp only [Val.box, Val.v])
    refine (hL3 _ _ (vs_two ((w11.alloc (Val.box ⟨2, 0, a⟩)).alloc (Val.box ⟨2, 0, b⟩)) ⟨2, 0, a⟩ ⟨2, 0, b⟩ (w11.heap.size + 1 + 1) (by simp))).mono ?_
    rintro e w12 ⟨v12, rfl, hs12, hb12⟩
    obtain ⟨b12, off12, rfl, z0, z1, z2⟩ := slv_one hs12
    replace hb12 := after3 hb12
    have o1 := fun W (hb : Below w12.heap.size w12 W) => one_any b10 off10 1 ⟨3, X, []⟩ W (cell_below (cell_below x0 hb12) hb) (cell_below (cell_below x1 hb12) hb) (cell_below (cell_below x2 hb12) hb)
    have o2 := fun W (hb : Below w12.heap.size w12 W) => one_any b11 off11 1 ⟨3, Y, []⟩ W (cell_below (cell_below y0 hb12) hb) (cell_below (cell_below y1 hb12) hb) (cell_below (cell_below y2 hb12) hb)
    have o3 := fun W (hb : Below w12.heap.size w12 W) => one_any b12 off12 1 ⟨3, Z, []⟩ W (cell_below z0 hb) (cell_below z1 hb) (cell_below z2 hb)
    simp only [Val.v] at o1 o2 o3
    replace hb12 := hb11.trans (hb12.mono hb11.size)
    clear hs12 hL3 x0 x1 x2 y0 y1 y2 z0 z1 z2
    go_wp2_with (go_at_call 29; refine (num3_any _ _).mono ?_; rintro e w' ⟨rfl, hw'⟩; replace hw' := hw'.symm; subst hw')
    refine (o1 _ (Below.refl _ _)).mono ?_
    rintro e w13 ⟨rfl, hk13⟩
    go_wp2_with fail
    refine (o2 _ hk13).mono ?_
    rintro e w14 ⟨rfl, hk14⟩
    replace hk14 := hk13.trans (hk14.mono hk13.size)
    go_wp2_with fail
    refine (o3 _ hk14).mono ?_
    rintro e w15 ⟨rfl, hk15⟩
    replace hk15 := hk14.trans (hk15.mono hk14.size)
    go_wp2
    go_ret
    exact ⟨rfl, hb12.trans (hk15.mono hb12.size)⟩
set_option maxHeartbeats 4000000 in
set_option maxRecDepth 100000 in
theorem bytes_three (a b : List UInt8) (n er : Int) (hl : 256 < a.length ∨ 256 < b.length) (hs : a.length ≤ 9223372036854775807) (hs' : b.length ≤ 9223372036854775807) (hap : applyV 33 [⟨2, 0, a⟩, ⟨2, 0, b⟩] = ([], er)) (her : er = 41 ∨ er = 1) (h0 : -9223372036854775808 ≤ n) (h1 : n ≤ 9223372036854775807) (w : World) : Calls Try.prog 7 #[.string ⟨a.toArray⟩, .string ⟨b.toArray⟩, .int .i64 n] w fun e w' => e = .returned (.bool true) ∧ Below w.heap.size w w' := by
  have hJ := fun W p hV => apply_any 33 p 2 2 [⟨2, 0, a⟩, ⟨2, 0, b⟩] rfl W hV (fair_of (by simp; omega)) (by decide)
  rw [hap] at hJ
  have hP := fun W p hV => apply_any 38 p 1 1 [⟨1, n, []⟩] rfl W hV (fair_of (by simp)) (by decide)
  have hU := fun W p hV => apply_any 39 p 1 1 [⟨2, 0, packV n⟩] rfl W hV (fair_of (by simp [pack_length])) (by decide)
  rw [apply_pack] at hP
  rw [apply_unpack h0 h1] at hU
  have hpk := pack_length n
  generalize packV n = pk at *
  clear hap
  by_cases ga : a.length ≤ 256
  · have g1 : 256 - (a.length : Int) < (b.length : Int) := by omega
    have g2 : 256 < (b.length : Int) := by omega
    rcases her with rfl | rfl
    · go_enter Try.func7, Try.ntmps7
      go_wp2_with (go_at_call 34; refine (text_any' _ _).mono ?_; rintro e w' ⟨rfl, rfl⟩; simp only [Val.box, Val.v])
      refine (hJ _ _ (vs_two ((w.alloc (Val.box ⟨2, 0, a⟩)).alloc (Val.box ⟨2, 0, b⟩)) ⟨2, 0, a⟩ ⟨2, 0, b⟩ (w.heap.size + 1 + 1) (by simp))).mono ?_
      rintro e w5 ⟨v1, rfl, hs1, hb5⟩
      obtain ⟨a1, rfl⟩ := slv_none hs1
      replace hb5 := after3 hb5
      clear hs1 hJ
      go_wp2_with (go_at_call 29; refine (num3_any _ _).mono ?_; rintro e w' ⟨rfl, hw'⟩; replace hw' := hw'.symm; subst hw')
      refine (number_any' n _).mono ?_
      rintro e w' ⟨rfl, rfl⟩
      simp only [Val.box, Val.v]
      go_wp2_with fail
      refine (hP _ _ (vs_one' (w5.alloc (Val.box ⟨1, n, []⟩)) ⟨1, n, []⟩ (w5.heap.size + 1) (by simp))).mono ?_
      rintro e w6 ⟨v6, rfl, hs6, hb6⟩
      obtain ⟨b6, off6, rfl, s0, s1, s2⟩ := slv_one hs6
      replace hb6 := hb5.trans ((after2 hb6).mono hb5.size)
      simp only at s0 s1 s2
      clear hs6 hP
      go_wp2_with (go_at_call 29; refine (num3_any _ _).mono ?_; rintro e w' ⟨rfl, hw'⟩; replace hw' := hw'.symm; subst hw')
      refine (hU _ _ (vs_one' w6 ⟨2, 0, pk⟩ w6.heap.size rfl)).mono ?_
      rintro e w7 ⟨v7, rfl, hs7, hb7⟩
      obtain ⟨b7, off7, rfl, t0, t1, t2⟩ := slv_one hs7
      replace hb7 := after1 hb7
      replace s0 := cell_below s0 hb7
      replace s1 := cell_below s1 hb7
      replace s2 := cell_below s2 hb7
      replace hb7 := hb6.trans (hb7.mono hb6.size)
      have hq := one_any b7 off7 1 ⟨1, n, []⟩ w7 t0 t1 t2
      simp only [Val.v] at hq
      clear hs7 hU t0 t1 t2
      go_wp2_with (first | (go_at_call 29; refine (num3_any _ _).mono ?_; rintro e w' ⟨rfl, hw'⟩; replace hw' := hw'.symm; subst hw') | (go_at_call 33; refine hq.mono ?_; rintro e w8 ⟨rfl, hb8⟩; replace s0 := cell_below s0 hb8; replace s1 := cell_below s1 hb8; replace s2 := cell_below s2 hb8; replace hb8 := hb7.trans (hb8.mono hb7.size)) | (go_at_call 24; refine (knows3_any _).mono ?_; rintro e w9 ⟨rfl, hb9⟩; replace hb9 := hb8.trans (hb9.mono hb8.size)))
      go_ret
      exact ⟨rfl, hb9⟩
    · go_enter Try.func7, Try.ntmps7
      go_wp2_with (go_at_call 34; refine (text_any' _ _).mono ?_; rintro e w' ⟨rfl, rfl⟩; simp only [Val.box, Val.v])
      refine (hJ _ _ (vs_two ((w.alloc (Val.box ⟨2, 0, a⟩)).alloc (Val.box ⟨2, 0, b⟩)) ⟨2, 0, a⟩ ⟨2, 0, b⟩ (w.heap.size + 1 + 1) (by simp))).mono ?_
      rintro e w5 ⟨v1, rfl, hs1, hb5⟩
      obtain ⟨a1, rfl⟩ := slv_none hs1
      replace hb5 := after3 hb5
      clear hs1 hJ
      go_wp2_with (go_at_call 29; refine (num3_any _ _).mono ?_; rintro e w' ⟨rfl, hw'⟩; replace hw' := hw'.symm; subst hw')
      refine (number_any' n _).mono ?_
      rintro e w' ⟨rfl, rfl⟩
      simp only [Val.box, Val.v]
      go_wp2_with fail
      refine (hP _ _ (vs_one' (w5.alloc (Val.box ⟨1, n, []⟩)) ⟨1, n, []⟩ (w5.heap.size + 1) (by simp))).mono ?_
      rintro e w6 ⟨v6, rfl, hs6, hb6⟩
      obtain ⟨b6, off6, rfl, s0, s1, s2⟩ := slv_one hs6
      replace hb6 := hb5.trans ((after2 hb6).mono hb5.size)
      simp only at s0 s1 s2
      clear hs6 hP
      go_wp2_with (go_at_call 29; refine (num3_any _ _).mono ?_; rintro e w' ⟨rfl, hw'⟩; replace hw' := hw'.symm; subst hw')
      refine (hU _ _ (vs_one' w6 ⟨2, 0, pk⟩ w6.heap.size rfl)).mono ?_
      rintro e w7 ⟨v7, rfl, hs7, hb7⟩
      obtain ⟨b7, off7, rfl, t0, t1, t2⟩ := slv_one hs7
      replace hb7 := after1 hb7
      replace s0 := cell_below s0 hb7
      replace s1 := cell_below s1 hb7
      replace s2 := cell_below s2 hb7
      replace hb7 := hb6.trans (hb7.mono hb6.size)
      have hq := one_any b7 off7 1 ⟨1, n, []⟩ w7 t0 t1 t2
      simp only [Val.v] at hq
      clear hs7 hU t0 t1 t2
      go_wp2_with (first | (go_at_call 29; refine (num3_any _ _).mono ?_; rintro e w' ⟨rfl, hw'⟩; replace hw' := hw'.symm; subst hw') | (go_at_call 33; refine hq.mono ?_; rintro e w8 ⟨rfl, hb8⟩; replace s0 := cell_below s0 hb8; replace s1 := cell_below s1 hb8; replace s2 := cell_below s2 hb8; replace hb8 := hb7.trans (hb8.mono hb7.size)) | (go_at_call 24; refine (knows3_any _).mono ?_; rintro e w9 ⟨rfl, hb9⟩; replace hb9 := hb8.trans (hb9.mono hb8.size)))
      go_ret
      exact ⟨rfl, hb9⟩
  · have g1 : 256 < (a.length : Int) := by omega
    rcases her with rfl | rfl
    · go_enter Try.func7, Try.ntmps7
      go_wp2_with (go_at_call 34; refine (text_any' _ _).mono ?_; rintro e w' ⟨rfl, rfl⟩; simp only [Val.box, Val.v])
      refine (hJ _ _ (vs_two ((w.alloc (Val.box ⟨2, 0, a⟩)).alloc (Val.box ⟨2, 0, b⟩)) ⟨2, 0, a⟩ ⟨2, 0, b⟩ (w.heap.size + 1 + 1) (by simp))).mono ?_
      rintro e w5 ⟨v1, rfl, hs1, hb5⟩
      obtain ⟨a1, rfl⟩ := slv_none hs1
      replace hb5 := after3 hb5
      clear hs1 hJ
      go_wp2_with (go_at_call 29; refine (num3_any _ _).mono ?_; rintro e w' ⟨rfl, hw'⟩; replace hw' := hw'.symm; subst hw')
      refine (number_any' n _).mono ?_
      rintro e w' ⟨rfl, rfl⟩
      simp only [Val.box, Val.v]
      go_wp2_with fail
      refine (hP _ _ (vs_one' (w5.alloc (Val.box ⟨1, n, []⟩)) ⟨1, n, []⟩ (w5.heap.size + 1) (by simp))).mono ?_
      rintro e w6 ⟨v6, rfl, hs6, hb6⟩
      obtain ⟨b6, off6, rfl, s0, s1, s2⟩ := slv_one hs6
      replace hb6 := hb5.trans ((after2 hb6).mono hb5.size)
      simp only at s0 s1 s2
      clear hs6 hP
      go_wp2_with (go_at_call 29; refine (num3_any _ _).mono ?_; rintro e w' ⟨rfl, hw'⟩; replace hw' := hw'.symm; subst hw')
      refine (hU _ _ (vs_one' w6 ⟨2, 0, pk⟩ w6.heap.size rfl)).mono ?_
      rintro e w7 ⟨v7, rfl, hs7, hb7⟩
      obtain ⟨b7, off7, rfl, t0, t1, t2⟩ := slv_one hs7
      replace hb7 := after1 hb7
      replace s0 := cell_below s0 hb7
      replace s1 := cell_below s1 hb7
      replace s2 := cell_below s2 hb7
      replace hb7 := hb6.trans (hb7.mono hb6.size)
      have hq := one_any b7 off7 1 ⟨1, n, []⟩ w7 t0 t1 t2
      simp only [Val.v] at hq
      clear hs7 hU t0 t1 t2
      go_wp2_with (first | (go_at_call 29; refine (num3_any _ _).mono ?_; rintro e w' ⟨rfl, hw'⟩; replace hw' := hw'.symm; subst hw') | (go_at_call 33; refine hq.mono ?_; rintro e w8 ⟨rfl, hb8⟩; replace s0 := cell_below s0 hb8; replace s1 := cell_below s1 hb8; replace s2 := cell_below s2 hb8; replace hb8 := hb7.trans (hb8.mono hb7.size)) | (go_at_call 24; refine (knows3_any _).mono ?_; rintro e w9 ⟨rfl, hb9⟩; replace hb9 := hb8.trans (hb9.mono hb8.size)))
      go_ret
      exact ⟨rfl, hb9⟩
    · go_enter Try.func7, Try.ntmps7
      go_wp2_with (go_at_call 34; refine (text_any' _ _).mono ?_; rintro e w' ⟨rfl, rfl⟩; simp only [Val.box, Val.v])
      refine (hJ _ _ (vs_two ((w.alloc (Val.box ⟨2, 0, a⟩)).alloc (Val.box ⟨2, 0, b⟩)) ⟨2, 0, a⟩ ⟨2, 0, b⟩ (w.heap.size + 1 + 1) (by simp))).mono ?_
      rintro e w5 ⟨v1, rfl, hs1, hb5⟩
      obtain ⟨a1, rfl⟩ := slv_none hs1
      replace hb5 := after3 hb5
      clear hs1 hJ
      go_wp2_with (go_at_call 29; refine (num3_any _ _).mono ?_; rintro e w' ⟨rfl, hw'⟩; replace hw' := hw'.symm; subst hw')
      refine (number_any' n _).mono ?_
      rintro e w' ⟨rfl, rfl⟩
      simp only [Val.box, Val.v]
      go_wp2_with fail
      refine (hP _ _ (vs_one' (w5.alloc (Val.box ⟨1, n, []⟩)) ⟨1, n, []⟩ (w5.heap.size + 1) (by simp))).mono ?_
      rintro e w6 ⟨v6, rfl, hs6, hb6⟩
      obtain ⟨b6, off6, rfl, s0, s1, s2⟩ := slv_one hs6
      replace hb6 := hb5.trans ((after2 hb6).mono hb5.size)
      simp only at s0 s1 s2
      clear hs6 hP
      go_wp2_with (go_at_call 29; refine (num3_any _ _).mono ?_; rintro e w' ⟨rfl, hw'⟩; replace hw' := hw'.symm; subst hw')
      refine (hU _ _ (vs_one' w6 ⟨2, 0, pk⟩ w6.heap.size rfl)).mono ?_
      rintro e w7 ⟨v7, rfl, hs7, hb7⟩
      obtain ⟨b7, off7, rfl, t0, t1, t2⟩ := slv_one hs7
      replace hb7 := after1 hb7
      replace s0 := cell_below s0 hb7
      replace s1 := cell_below s1 hb7
      replace s2 := cell_below s2 hb7
      replace hb7 := hb6.trans (hb7.mono hb6.size)
      have hq := one_any b7 off7 1 ⟨1, n, []⟩ w7 t0 t1 t2
      simp only [Val.v] at hq
      clear hs7 hU t0 t1 t2
      go_wp2_with (first | (go_at_call 29; refine (num3_any _ _).mono ?_; rintro e w' ⟨rfl, hw'⟩; replace hw' := hw'.symm; subst hw') | (go_at_call 33; refine hq.mono ?_; rintro e w8 ⟨rfl, hb8⟩; replace s0 := cell_below s0 hb8; replace s1 := cell_below s1 hb8; replace s2 := cell_below s2 hb8; replace hb8 := hb7.trans (hb8.mono hb7.size)) | (go_at_call 24; refine (knows3_any _).mono ?_; rintro e w9 ⟨rfl, hb9⟩; replace hb9 := hb8.trans (hb9.mono hb8.size)))
      go_ret
      exact ⟨rfl, hb9⟩
theorem bytes_walk (a b : List UInt8) (n : Int) (hs : a.length ≤ 9223372036854775807) (hs' : b.length ≤ 9223372036854775807) (h0 : -9223372036854775808 ≤ n) (h1 : n ≤ 9223372036854775807) (w : World) : Calls Try.prog 7 #[.string ⟨a.toArray⟩, .string ⟨b.toArray⟩, .int .i64 n] w fun e w' => e = .returned (.bool true) ∧ Below w.heap.size w w' := by
  by_cases hl : a.length + b.length ≤ 256
  · exact bytes_one a b n hl h0 h1 w
  · have hl' : 256 < a.length + b.length := by omega
    obtain ⟨er, hap, her⟩ : ∃ er, applyV 33 [⟨2, 0, a⟩, ⟨2, 0, b⟩] = ([], er) ∧ (er = 41 ∨ er = 1) := by
      rcases apply_join_long hl' with h | h
      · exact ⟨_, h, .inl rfl⟩
      · exact ⟨_, h, .inr rfl⟩
    by_cases hg : a.length ≤ 256 ∧ b.length ≤ 256
    · exact bytes_two a b n er hl' hg.1 hg.2 hap her h0 h1 w
    · exact bytes_three a b n er (by omega) hs hs' hap her h0 h1 w
end Go.Proofs.Ytbhibhlabogohaa
