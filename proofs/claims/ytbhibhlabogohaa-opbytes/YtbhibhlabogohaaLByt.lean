/- The walk of OpBytes. -/
import Derived.Test.YtbhibhlabogohaaOKn
import Derived.Test.YtbhibhlabogohaaOP
import Derived.Test.YtbhibhlabogohaaOKo
import Derived.Deep.Cut
namespace Go.Proofs.Ytbhibhlabogohaa
open Go.RowKit
attribute [local go_sem high] eq_val eq_val0 field_n field_b
theorem fit_2 {a : List UInt8} (h : a.length ≤ 256) : fitsB [⟨2, 0, a⟩] [2] = true := by simp [fitsB, Val.right, h]
theorem fit_22 {a b : List UInt8} (h : a.length ≤ 256) (h' : b.length ≤ 256) : fitsB [⟨2, 0, a⟩, ⟨2, 0, b⟩] [2, 2] = true := by simp [fitsB, Val.right, h, h']
theorem fit_22_not {a b : List UInt8} (h : ¬ (a.length ≤ 256 ∧ b.length ≤ 256)) : fitsB [⟨2, 0, a⟩, ⟨2, 0, b⟩] [2, 2] = false := by
  simp [fitsB, Val.right]
  omega
theorem apply_join {a b : List UInt8} (h : a.length + b.length ≤ 256) : applyV 33 [⟨2, 0, a⟩, ⟨2, 0, b⟩] = ([⟨2, 0, a ++ b⟩], 0) :=
  apply_ok rfl (fit_22 (by omega) (by omega)) (by show (if a.length + b.length > 256 then (41 : Int) else 0) = 0; rw [if_neg (by omega)])
theorem apply_join_long {a b : List UInt8} (h : 256 < a.length + b.length) : applyV 33 [⟨2, 0, a⟩, ⟨2, 0, b⟩] = ([], 41) ∨ applyV 33 [⟨2, 0, a⟩, ⟨2, 0, b⟩] = ([], 1) := by
  unfold applyV
  by_cases hs : a.length ≤ 256 ∧ b.length ≤ 256
  · left
    have e : faultV 33 [⟨2, 0, a⟩, ⟨2, 0, b⟩] = 41 := by show (if a.length + b.length > 256 then (41 : Int) else 0) = 41; rw [if_pos (by omega)]
    rw [if_pos ⟨rfl, fit_22 hs.1 hs.2⟩, e]
    rfl
  · right
    rw [if_neg (fun e => by have e2 := e.2; rw [show inT 33 = [2, 2] from rfl, fit_22_not hs] at e2; cases e2)]
theorem fit_211 {a : List UInt8} {p q : Int} (h : a.length ≤ 256) : fitsB [⟨2, 0, a⟩, ⟨1, p, []⟩, ⟨1, q, []⟩] [2, 1, 1] = true := by simp [fitsB, Val.right, h]
theorem apply_cut {a : List UInt8} {p q : Nat} (h : a.length ≤ 256) (h1 : p ≤ q) (h2 : q ≤ a.length) : applyV 34 [⟨2, 0, a⟩, ⟨1, p, []⟩, ⟨1, q, []⟩] = ([⟨2, 0, (a.take q).drop p⟩], 0) := by
  refine (apply_ok rfl (fit_211 h) ?_).trans ?_
  · show (if (0 ≤ (p : Int) ∧ (p : Int) ≤ (q : Int)) ∧ (q : Int) ≤ (a.length : Int) then (0 : Int) else 42) = 0
    rw [if_pos (by omega)]
  · show ([(⟨2, 0, (a.take (q : Int).toNat).drop (p : Int).toNat⟩ : Val)], (0 : Int)) = _
    rw [Int.toNat_natCast, Int.toNat_natCast]
theorem apply_pack (n : Int) : applyV 38 [⟨1, n, []⟩] = ([⟨2, 0, packV n⟩], 0) := apply_ok rfl (by simp [fitsB, Val.right, inT, rowOf, inTab]) rfl
theorem pack_length (n : Int) : (packV n).length = 8 := by simp [packV]
theorem apply_unpack {n : Int} (h0 : -9223372036854775808 ≤ n) (h1 : n ≤ 9223372036854775807) : applyV 39 [⟨2, 0, packV n⟩] = ([⟨1, n, []⟩], 0) := by
  refine (apply_ok rfl (fit_2 (by rw [pack_length]; omega)) ?_).trans ?_
  · show (if (packV n).length > 8 then (41 : Int) else 0) = 0
    rw [pack_length]
    rfl
  · show ([(⟨1, unpackV (packV n), []⟩ : Val)], (0 : Int)) = _
    rw [unpack_pack h0 h1]
def lessN (a b : List UInt8) : Int := if Op.bytesLess a b then 1 else 0
theorem apply_less {a b : List UInt8} (h : a.length ≤ 256) (h' : b.length ≤ 256) : applyV 37 [⟨2, 0, a⟩, ⟨2, 0, b⟩] = ([⟨3, lessN a b, []⟩], 0) := by
  refine (apply_ok rfl (fit_22 h h') rfl).trans ?_
  show ([(⟨3, if holdsV 37 (cmpV ⟨2, 0, a⟩ ⟨2, 0, b⟩) then 1 else 0, []⟩ : Val)], (0 : Int)) = _
  rw [cmp_bytes]
  unfold lessN
  by_cases e : a = b
  · subst e
    simp [less_irrefl, holdsV]
  · rw [if_neg e]
    cases Op.bytesLess a b <;> rfl
def sameN (a b : List UInt8) : Int := if a = b then 1 else 0
theorem apply_same {a b : List UInt8} (h : a.length ≤ 256) (h' : b.length ≤ 256) : applyV 36 [⟨2, 0, a⟩, ⟨2, 0, b⟩] = ([⟨3, sameN a b, []⟩], 0) := by
  refine (apply_ok rfl (fit_22 h h') rfl).trans ?_
  show ([(⟨3, if holdsV 36 (cmpV ⟨2, 0, a⟩ ⟨2, 0, b⟩) then 1 else 0, []⟩ : Val)], (0 : Int)) = _
  rw [cmp_bytes]
  unfold sameN
  by_cases e : a = b
  · subst e
    simp [holdsV]
  · rw [if_neg e, if_neg e]
    cases Op.bytesLess a b <;> rfl
theorem one_of (a b : List UInt8) : (lessN a b = 1 ∧ lessN b a = 0 ∧ sameN a b = 0) ∨ (lessN a b = 0 ∧ lessN b a = 1 ∧ sameN a b = 0) ∨ (lessN a b = 0 ∧ lessN b a = 0 ∧ sameN a b = 1) := by
  unfold lessN sameN
  by_cases e : a = b
  · subst e
    simp [less_irrefl]
  · have := less_total a b e
    cases h : Op.bytesLess b a <;> simp [this, h, e]
set_option maxHeartbeats 4000000 in
set_option maxRecDepth 100000 in
theorem bytes_one (a b : List UInt8) (n : Int) (hl : a.length + b.length ≤ 256) (h0 : -9223372036854775808 ≤ n) (h1 : n ≤ 9223372036854775807) (w : World) : Calls Try.prog 7 #[.string ⟨a.toArray⟩, .string ⟨b.toArray⟩, .int .i64 n] w fun e w' => e = .returned (.bool true) ∧ Below w.heap.size w w' := by
  have hJ := fun W p hV => apply_any 33 p 2 2 [⟨2, 0, a⟩, ⟨2, 0, b⟩] rfl W hV (fair_of (by simp; omega)) (by decide)
  rw [apply_join hl] at hJ
  have hab : (a ++ b).length = a.length + b.length := List.length_append
  have hC1 := fun W p hV => apply_any 34 p 3 3 [⟨2, 0, a ++ b⟩, ⟨1, 0, []⟩, ⟨1, a.length, []⟩] rfl W hV (fair_of (by simp; omega)) (by decide)
  have hC2 := fun W p hV => apply_any 34 p 3 3 [⟨2, 0, a ++ b⟩, ⟨1, a.length, []⟩, ⟨1, (a.length : Int) + b.length, []⟩] rfl W hV (fair_of (by simp; omega)) (by decide)
  rw [show applyV 34 [⟨2, 0, a ++ b⟩, ⟨1, 0, []⟩, ⟨1, a.length, []⟩] = ([⟨2, 0, a⟩], 0) from (apply_cut (p := 0) (q := a.length) (by omega) (by omega) (by omega)).trans (by simp)] at hC1
  rw [show applyV 34 [⟨2, 0, a ++ b⟩, ⟨1, a.length, []⟩, ⟨1, (a.length : Int) + b.length, []⟩] = ([⟨2, 0, b⟩], 0) from (by rw [← Int.natCast_add, ← hab]; exact (apply_cut (p := a.length) (q := (a ++ b).length) (by omega) (by omega) (by omega)).trans (by rw [List.take_length]; simp))] at hC2
  have g0 : a.length ≤ 256 := by omega
  have g1 : (b.length : Int) ≤ 256 - (a.length : Int) := by omega
  have ga : a.length ≤ 256 := by omega
  have gb : b.length ≤ 256 := by omega
  have gb' : (b.length : Int) ≤ 256 := by omega
  have hP := fun W p hV => apply_any 38 p 1 1 [⟨1, n, []⟩] rfl W hV (fair_of (by simp)) (by decide)
  have hU := fun W p hV => apply_any 39 p 1 1 [⟨2, 0, packV n⟩] rfl W hV (fair_of (by simp [pack_length])) (by decide)
  rw [apply_pack] at hP
  rw [apply_unpack h0 h1] at hU
  have hpk := pack_length n
  generalize packV n = pk at *
  have hL1 := fun W p hV => apply_any 37 p 2 2 [⟨2, 0, a⟩, ⟨2, 0, b⟩] rfl W hV (fair_of (by simp; omega)) (by decide)
  have hL2 := fun W p hV => apply_any 37 p 2 2 [⟨2, 0, b⟩, ⟨2, 0, a⟩] rfl W hV (fair_of (by simp; omega)) (by decide)
  have hL3 := fun W p hV => apply_any 36 p 2 2 [⟨2, 0, a⟩, ⟨2, 0, b⟩] rfl W hV (fair_of (by simp; omega)) (by decide)
  rw [apply_less ga gb] at hL1
  rw [apply_less gb ga] at hL2
  rw [apply_same ga gb] at hL3
  obtain ⟨x0', x1', y0', y1', z0', z1', hsum⟩ : 0 ≤ lessN a b ∧ lessN a b ≤ 1 ∧ 0 ≤ lessN b a ∧ lessN b a ≤ 1 ∧ 0 ≤ sameN a b ∧ sameN a b ≤ 1 ∧ (lessN a b + lessN b a + sameN a b == 1) = true := by
    rcases one_of a b with ⟨e1, e2, e3⟩ | ⟨e1, e2, e3⟩ | ⟨e1, e2, e3⟩ <;> simp [e1, e2, e3]
  generalize lessN a b = X at *
  generalize lessN b a = Y at *
  generalize sameN a b = Z at *
  go_enter Try.func7, Try.ntmps7
  go_wp2_with (go_at_call 34; refine (text_any' _ _).mono ?_; rintro e w' ⟨rfl, rfl⟩; simp only [Val.box, Val.v])
  refine (hJ _ _ (vs_two ((w.alloc (Val.box ⟨2, 0, a⟩)).alloc (Val.box ⟨2, 0, b⟩)) ⟨2, 0, a⟩ ⟨2, 0, b⟩ (w.heap.size + 1 + 1) (by simp))).mono ?_
  rintro e w1 ⟨v1, rfl, hs1, hb1⟩
  obtain ⟨b1, off1, rfl, p0, p1, p2⟩ := slv_one hs1
  replace hb1 : Below w.heap.size w w1 := ((((Below.refl _ w).alloc (Nat.le_refl _) _).alloc (by simp) _).alloc (by simp; omega) _).trans (hb1.mono (by simp; omega))
  simp only at p0 p1 p2
  have l1 := World.block_lt_of_cell? _ _ p0
  simp only at l1
  clear hs1 hJ
  go_wp2_with (first | (go_at_call 29; refine (num3_any _ _).mono ?_; rintro e w' ⟨rfl, hw'⟩; replace hw' := hw'.symm; subst hw') | (go_at_call 32; refine (number_any' _ _).mono ?_; rintro e w' ⟨rfl, rfl⟩; simp only [Val.box, Val.v]))
  go_cut [9, 10] from 23 (fun x f wc => ∃ b2 off2, x = .slice (some ⟨b2, off2, none⟩) 1 1 ∧ f = .int .i64 0 ∧ (wc.cell? ⟨b2, off2, none⟩ = some (.int .i64 2) ∧ wc.cell? ⟨b2, off2 + 1, none⟩ = some (.int .i64 0) ∧ wc.cell? ⟨b2, off2 + 2, none⟩ = some (.string ⟨a.toArray⟩)) ∧ Below w1.heap.size w1 wc)
  case first =>
    go_region_with (first | (go_at_call 32; refine (number_any' _ _).mono ?_; rintro e w' ⟨rfl, rfl⟩; simp only [Val.box, Val.v]) | (go_at_call 26; refine (hC1 _ _ (Vs.drew (vs_three ((w1.alloc (Val.box ⟨1, 0, []⟩)).alloc (Val.box ⟨1, a.length, []⟩)) ⟨2, 0, a ++ b⟩ ⟨1, 0, []⟩ ⟨1, a.length, []⟩ (w1.heap.size + 1 + 1) (by simp)))).mono ?_; rintro e w2 ⟨v2, rfl, hs2, hb2⟩; obtain ⟨b2, off2, rfl, q0, q1, q2⟩ := slv_one hs2))
    all_goals (go_wp2_with fail; go_meet; exact ⟨b2, off2, rfl, rfl, ⟨q0, q1, q2⟩, after3d hb2⟩)
  case rest =>
    obtain ⟨b2, off2, rfl, rfl, ⟨q0, q1, q2⟩, hb2⟩ := hcut
    obtain ⟨wo, rfl⟩ : ∃ wo : World, wo = wc := ⟨_, rfl⟩
    replace p0 := cell_below p0 hb2
    replace p1 := cell_below p1 hb2
    replace p2 := cell_below p2 hb2
    replace hb2 := hb1.trans (hb2.mono hb1.size)
    clear hC1 l1
    have l1 := World.block_lt_of_cell? _ _ p0
    have l2 := World.block_lt_of_cell? _ _ q0
    simp only at l1 l2
    go_wp2
    go_cut [11, 12] from 23 (fun x f wd => ∃ b3 off3, x = .slice (some ⟨b3, off3, none⟩) 1 1 ∧ f = .int .i64 0 ∧ (wd.cell? ⟨b3, off3, none⟩ = some (.int .i64 2) ∧ wd.cell? ⟨b3, off3 + 1, none⟩ = some (.int .i64 0) ∧ wd.cell? ⟨b3, off3 + 2, none⟩ = some (.string ⟨b.toArray⟩)) ∧ Below wo.heap.size wo wd)
    case first =>
      go_region_with (first | (go_at_call 32; refine (number_any' _ _).mono ?_; rintro e w' ⟨rfl, rfl⟩; simp only [Val.box, Val.v]) | (go_at_call 26; refine (hC2 _ _ (Vs.drew (vs_three ((wo.alloc (Val.box ⟨1, a.length, []⟩)).alloc (Val.box ⟨1, (a.length : Int) + b.length, []⟩)) ⟨2, 0, a ++ b⟩ ⟨1, a.length, []⟩ ⟨1, (a.length : Int) + b.length, []⟩ (wo.heap.size + 1 + 1) (by simp)))).mono ?_; rintro e w2 ⟨v2, rfl, hs2, hb3⟩; obtain ⟨b3, off3, rfl, r0, r1, r2⟩ := slv_one hs2))
      all_goals (go_wp2_with fail; go_meet; exact ⟨b3, off3, rfl, rfl, ⟨r0, r1, r2⟩, after3d hb3⟩)
    case rest =>
      obtain ⟨b3, off3, rfl, rfl, ⟨r0, r1, r2⟩, hb3⟩ := hcut
      have hx := fun W (hb : Below wc.heap.size wc W) => one_any b2 off2 1 ⟨2, 0, a⟩ W (cell_below (cell_below q0 hb3) hb) (cell_below (cell_below q1 hb3) hb) (cell_below (cell_below q2 hb3) hb)
      have hy := fun W (hb : Below wc.heap.size wc W) => one_any b3 off3 1 ⟨2, 0, b⟩ W (cell_below r0 hb) (cell_below r1 hb) (cell_below r2 hb)
      simp only [Val.v] at hx hy
      replace hb3 := hb2.trans (hb3.mono hb2.size)
      clear p0 p1 p2 q0 q1 q2 r0 r1 r2 l1 l2 hC2
      go_wp2_with (go_at_call 29; refine (num3_any _ _).mono ?_; rintro e w' ⟨rfl, hw'⟩; replace hw' := hw'.symm; subst hw')
      refine (hx _ (Below.refl _ _)).mono ?_
      rintro e w4 ⟨rfl, hk4⟩
      go_wp2_with fail
      refine (hy _ hk4).mono ?_
      rintro e w5 ⟨rfl, hk5⟩
      have hb5 := hb3.trans ((hk4.trans (hk5.mono hk4.size)).mono hb3.size)
      clear hx hy hk4 hk5
      go_wp2_with fail
      refine (number_any' n _).mono ?_
      rintro e w' ⟨rfl, rfl⟩
      simp only [Val.box, Val.v]
      go_wp2_with fail
      refine (hP _ _ (vs_one' (w5.alloc (Val.box ⟨1, n, []⟩)) ⟨1, n, []⟩ (w5.heap.size + 1) (by simp))).mono ?_
      rintro e w6 ⟨v6, rfl, hs6, hb6⟩
      obtain ⟨b6, off6, rfl, s0, s1, s2⟩ := slv_one hs6
      replace hb6 := hb5.trans ((after2 hb6).mono hb5.size)
      simp only at s0 s1 s2
      clear hs6 hP
      go_wp2_with (go_at_call 29; refine (num3_any _ _).mono ?_; rintro e w' ⟨rfl, hw'⟩; replace hw' := hw'.symm; subst hw')
      refine (hU _ _ (vs_one' w6 ⟨2, 0, pk⟩ w6.heap.size rfl)).mono ?_
      rintro e w7 ⟨v7, rfl, hs7, hb7⟩
      obtain ⟨b7, off7, rfl, t0, t1, t2⟩ := slv_one hs7
      replace hb7 := after1 hb7
      replace s0 := cell_below s0 hb7
      replace s1 := cell_below s1 hb7
      replace s2 := cell_below s2 hb7
      replace hb7 := hb6.trans (hb7.mono hb6.size)
      have hq := one_any b7 off7 1 ⟨1, n, []⟩ w7 t0 t1 t2
      simp only [Val.v] at hq
      clear hs7 hU t0 t1 t2
      go_wp2_with (first | (go_at_call 29; refine (num3_any _ _).mono ?_; rintro e w' ⟨rfl, hw'⟩; replace hw' := hw'.symm; subst hw') | (go_at_call 33; refine hq.mono ?_; rintro e w8 ⟨rfl, hb8⟩; replace s0 := cell_below s0 hb8; replace s1 := cell_below s1 hb8; replace s2 := cell_below s2 hb8; replace hb8 := hb7.trans (hb8.mono hb7.size)) | (go_at_call 24; refine (knows3_any _).mono ?_; rintro e w9 ⟨rfl, hb9⟩; replace hb9 := hb8.trans (hb9.mono hb8.size)))
      clear s0 s1 s2 hq
      refine (text_any' a _).mono ?_
      rintro e w' ⟨rfl, rfl⟩
      simp only [Val.box, Val.v]
      go_wp2_with (go_at_call 34; refine (text_any' _ _).mono ?_; rintro e w' ⟨rfl, rfl⟩; simp only [Val.box, Val.v])
      refine (hL1 _ _ (vs_two ((w9.alloc (Val.box ⟨2, 0, a⟩)).alloc (Val.box ⟨2, 0, b⟩)) ⟨2, 0, a⟩ ⟨2, 0, b⟩ (w9.heap.size + 1 + 1) (by simp))).mono ?_
      rintro e w10 ⟨v10, rfl, hs10, hb10⟩
      obtain ⟨b10, off10, rfl, x0, x1, x2⟩ := slv_one hs10
      replace hb10 := hb9.trans ((after3 hb10).mono hb9.size)
      clear hs10 hL1
      go_wp2_with (go_at_call 34; refine (text_any' _ _).mono ?_; rintro e w' ⟨rfl, rfl⟩; simp only [Val.box, Val.v])
      refine (hL2 _ _ (vs_two ((w10.alloc (Val.box ⟨2, 0, b⟩)).alloc (Val.box ⟨2, 0, a⟩)) ⟨2, 0, b⟩ ⟨2, 0, a⟩ (w10.heap.size + 1 + 1) (by simp))).mono ?_
      rintro e w11 ⟨v11, rfl, hs11, hb11⟩
      obtain ⟨b11, off11, rfl, y0, y1, y2⟩ := slv_one hs11
      replace hb11 := after3 hb11
      replace x0 := cell_below x0 hb11
      replace x1 := cell_below x1 hb11
      replace x2 := cell_below x2 hb11
      replace hb11 := hb10.trans (hb11.mono hb10.size)
      clear hs11 hL2
      go_wp2_with (go_at_call 34; refine (text_any' _ _).mono ?_; rintro e w' ⟨rfl, rfl⟩; simp only [Val.box, Val.v])
      refine (hL3 _ _ (vs_two ((w11.alloc (Val.box ⟨2, 0, a⟩)).alloc (Val.box ⟨2, 0, b⟩)) ⟨2, 0, a⟩ ⟨2, 0, b⟩ (w11.heap.size + 1 + 1) (by simp))).mono ?_
      rintro e w12 ⟨v12, rfl, hs12, hb12⟩
      obtain ⟨b12, off12, rfl, z0, z1, z2⟩ := slv_one hs12
      replace hb12 := after3 hb12
      have o1 := fun W (hb : Below w12.heap.size w12 W) => one_any b10 off10 1 ⟨3, X, []⟩ W (cell_below (cell_below x0 hb12) hb) (cell_below (cell_below x1 hb12) hb) (cell_below (cell_below x2 hb12) hb)
      have o2 := fun W (hb : Below w12.heap.size w12 W) => one_any b11 off11 1 ⟨3, Y, []⟩ W (cell_below (cell_below y0 hb12) hb) (cell_below (cell_below y1 hb12) hb) (cell_below (cell_below y2 hb12) hb)
      have o3 := fun W (hb : Below w12.heap.size w12 W) => one_any b12 off12 1 ⟨3, Z, []⟩ W (cell_below z0 hb) (cell_below z1 hb) (cell_below z2 hb)
      simp only [Val.v] at o1 o2 o3
      replace hb12 := hb11.trans (hb12.mono hb11.size)
      clear hs12 hL3 x0 x1 x2 y0 y1 y2 z0 z1 z2
      go_wp2_with (go_at_call 29; refine (num3_any _ _).mono ?_; rintro e w' ⟨rfl, hw'⟩; replace hw' := hw'.symm; subst hw')
      refine (o1 _ (Below.refl _ _)).mono ?_
      rintro e w13 ⟨rfl, hk13⟩
      go_wp2_with fail
      refine (o2 _ hk13).mono ?_
      rintro e w14 ⟨rfl, hk14⟩
      replace hk14 := hk13.trans (hk14.mono hk13.size)
      go_wp2_with fail
      refine (o3 _ hk14).mono ?_
      rintro e w15 ⟨rfl, hk15⟩
      replace hk15 := hk14.trans (hk15.mono hk14.size)
      go_wp2
      go_ret
      exact ⟨rfl, hb12.trans (hk15.mono hb12.size)⟩
end Go.Proofs.Ytbhibhlabogohaa
