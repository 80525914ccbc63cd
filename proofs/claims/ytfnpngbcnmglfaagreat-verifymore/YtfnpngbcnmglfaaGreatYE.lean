/- Layer 9: the closure of gasOf. -/
import Derived.Test.YtfnpngbcnmglfaaGreatYA
import Derived.Test.YtfnpngbcnmglfaaGreatWC
import Derived.Shelf.Abstract
namespace Go.Proofs.YtfnpngbcnmglfaaGreat
open Go.RowKit
/-- Where the closure's variables lie: the boxes of c, callees, parts. -/
structure GBox where
  (pc pl pp cc lc : Nat)
  (ca la : Option Addr)
def GBox.fr (b : GBox) : Array Value := #[.pointer (some ⟨b.pc, 0, none⟩), .pointer (some ⟨b.pl, 0, none⟩), .pointer (some ⟨b.pp, 0, none⟩)]
structure GSt (b : GBox) (cs : List (Int × Int)) (cal : List Int) (w : World) : Prop where
  c1 : w.cell? ⟨b.pc, 0, none⟩ = some (.slice b.ca cs.length b.cc)
  c2 : w.cell? ⟨b.pl, 0, none⟩ = some (.slice b.la cal.length b.lc)
  c3 : w.cell? ⟨b.pp, 0, none⟩ = some (.func (.func 193) #[] b.fr)
  i : IsAt w.cell? b.ca cs
  n : NsAt w.cell? b.la cal
theorem GSt.keep {b : GBox} {cs : List (Int × Int)} {cal : List Int} {w w' : World} (h : GSt b cs cal w) (hb : Below w.heap.size w w') : GSt b cs cal w' :=
  ⟨below_keep hb _ _ h.c1, below_keep hb _ _ h.c2, below_keep hb _ _ h.c3, h.i.keep (below_keep hb), h.n.keep (below_keep hb)⟩
/-- What the numbers are. -/
def rightN (cs : List (Int × Int)) (cal : List Int) : Prop := (∀ x ∈ cs, (x.1 = 53 → 0 ≤ x.2 ∧ x.2 < cal.length) ∧ (x.1 = 51 → 0 ≤ x.2)) ∧ ∀ n ∈ cal, 0 ≤ n
def PEnd (cs : List (Int × Int)) (cal : List Int) (a : Nat) (L : List (Bool × Bool)) (w : World) (e : Ending) (w' : World) : Prop :=
  ∃ m g g0, e = .returned (.tuple #[.int .i64 (g : Nat), .int .i64 (m : Nat)]) ∧ PI cal cs a m g0 L ∧ g ≤ TM ∧ (m = cs.length → g = g0) ∧ (∀ h : m < cs.length, (cs[m].1 = 49 ∨ cs[m].1 = 50) ∧ g = cut (g0 + costN cs[m].1)) ∧ Below w.heap.size w w'
/-- Behind the first part of an if. -/
def IfA (cal : List Int) (cs : List (Int × Int)) (k : Nat) (L : List (Bool × Bool)) (m y : Nat) (x : Int) : Prop :=
  ∃ y0, ∃ h : m < cs.length, PI cal cs (k + 1) m y0 ((false, false) :: L) ∧ cs[m].1 = x ∧ (x = 49 ∨ x = 50) ∧ y = cut (y0 + costN x)
set_option maxRecDepth 100000 in
set_option maxHeartbeats 4000000 in
theorem parts_step (b : GBox) (cs : List (Int × Int)) (cal : List Int) (hg : goodS cs = true) (hr : rightN cs cal) (hn : cs.length ≤ 9000000000000) (a : Nat) (ha : a ≤ cs.length) (L : List (Bool × Bool)) (hL : arun (cs.take a) [] = some L) (w : World) (h : GSt b cs cal w)
    (ih : ∀ (a' : Nat) (L' : List (Bool × Bool)) (w' : World), a < a' → a' ≤ cs.length → arun (cs.take a') [] = some L' → GSt b cs cal w' → Calls Tryz.prog 193 (#[.int .i64 (a' : Nat)] ++ b.fr) w' (PEnd cs cal a' L' w')) :
    Calls Tryz.prog 193 (#[.int .i64 (a : Nat)] ++ b.fr) w (PEnd cs cal a L w) := by
  have HG := hid9 hg
  have HR := hid9 hr
  have HIH := hid9 ih
  have HS0 := hid9 h
  have HP0 := hid9 (pi_start (cal := cal) ha hL)
  obtain ⟨n, hn'⟩ : ∃ n, n = cs.length := ⟨_, rfl⟩
  have HN := hid9 hn'
  obtain ⟨pc, hpc⟩ : ∃ x, x = b.pc := ⟨_, rfl⟩
  obtain ⟨pl, hpl⟩ : ∃ x, x = b.pl := ⟨_, rfl⟩
  obtain ⟨pp, hpp⟩ : ∃ x, x = b.pp := ⟨_, rfl⟩
  have HB := hid9 (And.intro hpc (And.intro hpl hpp))
  unfold GBox.fr
  show Calls Tryz.prog 193 #[.int .i64 (a : Nat), .pointer (some ⟨b.pc, 0, none⟩), .pointer (some ⟨b.pl, 0, none⟩), .pointer (some ⟨b.pp, 0, none⟩)] w _
  rw [← hpc, ← hpl, ← hpp]
  rw [← hn'] at hn ha
  have eF : ∀ args w, (callFunc 193 args).run Tryz.prog w = .ok (.enter 193 args) w := enters_of Tryz.func193 (by kernel_rfl) rfl
  clear hpc hpl hpp hn' h hg hr ih hL
  go_enter Tryz.func193, Tryz.ntmps193
  go_wp2_with fail
  go_loopw [0, 5] (fun av gv wr => ∃ k g : Nat, av = .int .i64 k ∧ gv = .int .i64 g ∧ k ≤ n ∧ g ≤ 1048577 ∧ Hid (PI cal cs a k g L) ∧ Hid (Below w.heap.size w wr)) (fun av _ _ => n - (intOf av).toNat)
  case atStart => exact ⟨a, 0, rfl, rfl, ha, by omega, HP0, hid9 (Below.refl _ w)⟩
  case round =>
    obtain ⟨k, g, rfl, rfl, hk, hgl, HP, HW⟩ := hrel
    have HS : Hid (GSt b cs cal wr) := hid9 (HS0.out.keep HW.out)
    obtain ⟨e1, e2, e3⟩ := HB.out
    have d1 := HS.out.c1
    have d2 := HS.out.c2
    have d3 := HS.out.c3
    rw [← e1, ← HN.out] at d1
    rw [← e2] at d2
    rw [GBox.fr, ← e1, ← e2, ← e3] at d3
    clear e1 e2 e3
    by_cases hlt : k < n
    · have hkl : k < cs.length := by rw [← HN.out]; exact hlt
      obtain ⟨cb, co, ec, z1, z2⟩ : ∃ cb co, b.ca = some ⟨cb, co, none⟩ ∧ wr.cell? ⟨cb, co + k * 2, none⟩ = some (.int .i64 cs[k].1) ∧ wr.cell? ⟨cb, co + k * 2 + 1, none⟩ = some (.int .i64 cs[k].2) := by
        rcases HS.out.i with h | ⟨x, o, e, h⟩
        · rw [h] at hkl; cases hkl
        · exact ⟨x, o, e, h k hkl⟩
      rw [ec] at d1
      have hc1 := (costT_pos cs[k].1).2
      obtain ⟨c0, hc0⟩ : ∃ c0, c0 = costN cs[k].1 := ⟨_, rfl⟩
      have HC : Hid (∀ w, Calls Tryz.prog 195 #[.int .i64 cs[k].1] w fun e w' => e = .returned (.int .i64 (c0 : Nat)) ∧ w' = w) := hid9 fun w => by rw [hc0]; exact cost9_any _ w
      rw [← hc0] at hc1
      obtain ⟨v, hv⟩ : ∃ v, v = cut (g + c0) := ⟨_, rfl⟩
      have hvl : v ≤ 1048577 := by rw [hv]; exact cut_le _
      have HSm : Hid (Calls Tryz.prog 194 #[.slice (some ⟨wr.heap.size + 1, 0, none⟩) 2 2] ((wr.alloc (.cells #[.int .i64 cs[k].1, .int .i64 cs[k].2] 83)).alloc (.cells #[.int .i64 (g : Int), .int .i64 (c0 : Int)] 3)) fun e w2 => e = .returned (.int .i64 (v : Nat)) ∧ w2.cell? ⟨wr.heap.size, 0, none⟩ = some (.int .i64 cs[k].1) ∧ w2.cell? ⟨wr.heap.size, 1, none⟩ = some (.int .i64 cs[k].2) ∧ w2.cell? ⟨pc, 0, none⟩ = some (.slice (some ⟨cb, co, none⟩) n b.cc) ∧ w2.cell? ⟨pl, 0, none⟩ = some (.slice b.la cal.length b.lc) ∧ w2.cell? ⟨pp, 0, none⟩ = some (.func (.func 193) #[] #[.pointer (some ⟨pc, 0, none⟩), .pointer (some ⟨pl, 0, none⟩), .pointer (some ⟨pp, 0, none⟩)]) ∧ Hid (Below wr.heap.size wr w2) ∧ Hid (Below w.heap.size w w2)) := hid9 (by
        rw [hv]
        refine (sum9_at g c0 (wr.alloc (.cells #[.int .i64 cs[k].1, .int .i64 cs[k].2] 83)) (wr.heap.size + 1) (by simp)).mono fun e w2 ⟨h1, h2⟩ => ?_
        have b1 := (Below.refl _ wr).alloc (Nat.le_refl _) (.cells #[.int .i64 cs[k].1, .int .i64 cs[k].2] 83)
        have b2 := (Below.refl _ (wr.alloc (.cells #[.int .i64 cs[k].1, .int .i64 cs[k].2] 83))).alloc (Nat.le_refl _) (.cells #[.int .i64 (g : Int), .int .i64 (c0 : Int)] 3)
        have b3 := b1.trans (b2.mono b1.size)
        rw [← h2] at b2 b3
        refine ⟨h1, below_keep b2 _ _ (Lib.cell_of_heap (heap_alloc_new wr _) 0), below_keep b2 _ _ (Lib.cell_of_heap (heap_alloc_new wr _) 1), below_keep b3 _ _ d1, below_keep b3 _ _ d2, below_keep b3 _ _ d3, hid9 b3, hid9 (HW.out.trans (b3.mono HW.out.size))⟩)
      have HE : Hid ((cs[k].1 = 49 ∨ cs[k].1 = 50) → ∀ w', Below w.heap.size w w' → PEnd cs cal a L w (.returned (.tuple #[.int .i64 (v : Nat), .int .i64 (k : Nat)])) w') := hid9 fun hx w' hb => ⟨k, v, g, rfl, HP.out, hvl, fun h => by omega, fun _ => ⟨hx, by rw [hv, hc0]⟩, hb⟩
      have HV := hid9 hv
      have HC0 := hid9 hc0
      have HK : Hid (∀ (m : Nat) (L' : List (Bool × Bool)) (W : World), k ≤ m → m < cs.length → arun (cs.take (m + 1)) [] = some L' → L' ≠ [] → Below wr.heap.size wr W → Calls Tryz.prog 193 (#[.int .i64 ((m : Int) + 1)] ++ #[.pointer (some ⟨pc, 0, none⟩), .pointer (some ⟨pl, 0, none⟩), .pointer (some ⟨pp, 0, none⟩)]) W fun e w4 => ∃ m2 y y0 : Nat, e = .returned (.tuple #[.int .i64 (y : Nat), .int .i64 (m2 : Nat)]) ∧ y ≤ 1048577 ∧ PI cal cs (m + 1) m2 y0 L' ∧ (∃ h : m2 < cs.length, (cs[m2].1 = 49 ∨ cs[m2].1 = 50) ∧ y = cut (y0 + costN cs[m2].1)) ∧ Below W.heap.size W w4) := hid9 fun m L' W h1 h2 h3 h4 h5 => by
        have h0 := HP.out.le
        have := HIH.out (m + 1) L' W (by omega) h2 h3 (HS.out.keep h5)
        obtain ⟨e1, e2, e3⟩ := HB.out
        rw [GBox.fr, ← e1, ← e2, ← e3] at this
        refine Calls.mono this fun e w4 ⟨m2, y, y0, q1, q2, q3, q4, q5, q6⟩ => ⟨m2, y, y0, q1, q3, q2, ?_, q6⟩
        rcases Nat.lt_or_ge m2 cs.length with q | q
        · exact ⟨q, q5 q⟩
        · exfalso
          have q7 : m2 = cs.length := Nat.le_antisymm q2.kn q
          have q8 := q2.ar
          rw [q7] at q8
          exact h4 (good_end HG.out q8)
      clear hv hc0 HW
      rcases (show cs[k].1 = 49 ∨ cs[k].1 = 50 ∨ cs[k].1 = 53 ∨ cs[k].1 = 48 ∨ cs[k].1 = 51 ∨ (cs[k].1 ≠ 49 ∧ cs[k].1 ≠ 50 ∧ cs[k].1 ≠ 53 ∧ cs[k].1 ≠ 48 ∧ cs[k].1 ≠ 51) by omega) with hx | hx | hx | hx | hx | ⟨x1, x2, x3, x4, x5⟩
      · replace HE := hid9 (HE.out (.inl hx))
        rw [hx] at z1 HC HSm
        generalize cs[k].2 = x9 at *
        clear HP HG HR HIH HK HS0 HP0 HV HC0 hx HS
        go_wp2_with (first | (go_at_call 195; refine (HC.out _).mono ?_; clear HC; rintro e w' ⟨rfl, rfl⟩) | (go_at_call 194; refine HSm.out.mono ?_; clear HSm d1 d2 d3; rintro e w2 ⟨rfl, t0, t1, d1, d2, d3, HW2, HW3⟩) | fail)
        go_ret2
        exact HE.out _ HW3.out
      · replace HE := hid9 (HE.out (.inr hx))
        rw [hx] at z1 HC HSm
        generalize cs[k].2 = x9 at *
        clear HP HG HR HIH HK HS0 HP0 HV HC0 hx HS
        go_wp2_with (first | (go_at_call 195; refine (HC.out _).mono ?_; clear HC; rintro e w' ⟨rfl, rfl⟩) | (go_at_call 194; refine HSm.out.mono ?_; clear HSm d1 d2 d3; rintro e w2 ⟨rfl, t0, t1, d1, d2, d3, HW2, HW3⟩) | fail)
        go_ret2
        exact HE.out _ HW3.out
      · have hmem := List.getElem_mem hkl
        obtain ⟨q1, q2⟩ := (HR.out.1 _ hmem).1 hx
        obtain ⟨i, hi⟩ : ∃ i : Nat, cs[k].2 = (i : Int) := ⟨_, (Int.toNat_of_nonneg q1).symm⟩
        have hil : i < cal.length := by omega
        obtain ⟨lb, lo, el, y1⟩ : ∃ lb lo, b.la = some ⟨lb, lo, none⟩ ∧ wr.cell? ⟨lb, lo + i, none⟩ = some (.int .i64 cal[i]) := by
          rcases HS.out.n with h | ⟨x, o, e, h⟩
          · rw [h] at hil; cases hil
          · exact ⟨x, o, e, h i hil⟩
        obtain ⟨y, hy⟩ : ∃ y : Nat, cal[i] = (y : Int) := ⟨_, (Int.toNat_of_nonneg (HR.out.2 _ (List.getElem_mem hil))).symm⟩
        have HP2 := hid9 (pi_call (v := y) HG.out HP.out hkl hx (by rw [hi, Int.toNat_natCast, List.getD_eq_getElem?_getD, List.getElem?_eq_getElem hil, Option.getD_some, hy, Int.toNat_natCast]))
        rw [hx] at z1 HC HC0 HSm
        rw [← HC0.out, ← HV.out] at HP2
        rw [hi] at z2 HSm
        rw [hy] at y1
        rw [el] at d2 HSm
        obtain ⟨cl, hcl'⟩ : ∃ cl, cl = cal.length := ⟨_, rfl⟩
        rw [← hcl'] at hil d2 HSm
        clear HP HG HR HIH HK HS0 HP0 HV HC0 HE hx HS hmem q1 q2 hi hy el hcl'
        go_wp2_with (first | (go_at_call 195; refine (HC.out _).mono ?_; clear HC; rintro e w' ⟨rfl, rfl⟩) | (go_at_call 194; refine HSm.out.mono ?_; clear HSm d1 d2 d3; rintro e w2 ⟨rfl, t0, t1, d1, d2, d3, HW2, HW3⟩; replace y1 := below_keep HW2.out _ _ y1) | (go_at_call 194; refine (sum9_at _ _ _ _ (by simp)).mono ?_; rintro e w' ⟨rfl, rfl⟩) | fail)
        exact ⟨⟨k + 1, cut (v + y), by go_num, rfl, by omega, cut_le _, HP2, hid9 (HW3.out.alloc HW3.out.size _)⟩, by simp [intOf]; omega⟩
      · have HK1 : Hid (∀ W, Below wr.heap.size wr W → Below w.heap.size w W → Calls Tryz.prog 193 (#[.int .i64 ((k : Int) + 1)] ++ #[.pointer (some ⟨pc, 0, none⟩), .pointer (some ⟨pl, 0, none⟩), .pointer (some ⟨pp, 0, none⟩)]) W fun e w4 => ∃ (m y : Nat) (x : Int), e = .returned (.tuple #[.int .i64 (y : Nat), .int .i64 (m : Nat)]) ∧ k < m ∧ m < n ∧ y ≤ 1048577 ∧ w4.cell? ⟨cb, co + m * 2, none⟩ = some (.int .i64 x) ∧ w4.cell? ⟨pc, 0, none⟩ = some (.slice (some ⟨cb, co, none⟩) n b.cc) ∧ w4.cell? ⟨pp, 0, none⟩ = some (.func (.func 193) #[] #[.pointer (some ⟨pc, 0, none⟩), .pointer (some ⟨pl, 0, none⟩), .pointer (some ⟨pp, 0, none⟩)]) ∧ Hid (IfA cal cs k L m y x) ∧ Hid (Below wr.heap.size wr w4) ∧ Hid (Below w.heap.size w w4)) := hid9 fun W b1 b2 => by
          have ho := pi_open HG.out HP.out.ar hkl (.inl hx)
          rw [hx] at ho
          refine (HK.out k _ W (Nat.le_refl _) hkl ho (by simp) b1).mono fun e w4 ⟨m, y, y0, r1, r2, r3, ⟨r4, r5, r6⟩, r7⟩ => ?_
          have b3 := b1.trans (r7.mono b1.size)
          have G4 := HS.out.keep b3
          have c4 : w4.cell? ⟨cb, co + m * 2, none⟩ = some (.int .i64 cs[m].1) := by
            rcases G4.i with h | ⟨x, o, e, h⟩
            · rw [h] at r4; cases r4
            · rw [ec] at e; cases e; exact (h m r4).1
          exact ⟨m, y, cs[m].1, r1, r3.le, by rw [HN.out]; exact r4, r2, c4, below_keep b3 _ _ d1, below_keep b3 _ _ d3, hid9 ⟨y0, r4, r3, rfl, r5, r6⟩, hid9 b3, hid9 (b2.trans (r7.mono b2.size))⟩
        have HK2 : Hid (∀ (m y : Nat) (x : Int) (W : World), k < m → IfA cal cs k L m y x → x = 49 → Below wr.heap.size wr W → Below w.heap.size w W → Calls Tryz.prog 193 (#[.int .i64 ((m : Int) + 1)] ++ #[.pointer (some ⟨pc, 0, none⟩), .pointer (some ⟨pl, 0, none⟩), .pointer (some ⟨pp, 0, none⟩)]) W fun e w5 => ∃ m2 z : Nat, e = .returned (.tuple #[.int .i64 (z : Nat), .int .i64 (m2 : Nat)]) ∧ m < m2 ∧ m2 < n ∧ z ≤ 1048577 ∧ Hid (PI cal cs a (m2 + 1) (cut (v + max y z)) L) ∧ Hid (Below w.heap.size w w5)) := hid9 fun m y x W hkm ⟨y0, r4, r3, s1, s2, s3⟩ h49 b1 b2 => by
          rw [h49] at s1
          have hel := (pi_else HG.out r3.ar r4 s1).2
          refine (HK.out m _ W (by omega) r4 hel (by simp) b1).mono fun e w5 ⟨m2, z, z0, u1, u2, u3, ⟨u4, u5, u6⟩, u7⟩ => ⟨m2, z, u1, u3.le, by rw [HN.out]; exact u4, u2, hid9 ?_, hid9 (b2.trans (u7.mono b2.size))⟩
          rcases u5 with u5 | u5
          · have := (pi_else HG.out u3.ar u4 u5).1
            simp at this
          · have := pi_ifelse HG.out HP.out hkl hx r3 r4 s1 u3 u4 u5
            rw [u6, u5, s3, h49, HV.out, HC0.out, hx]
            exact this
        have HK3 : Hid (∀ (m y : Nat) (x : Int), IfA cal cs k L m y x → x ≠ 49 → PI cal cs a (m + 1) (cut (v + y)) L) := hid9 fun m y x ⟨y0, r4, r3, s1, s2, s3⟩ h49 => by
          have s4 : x = 50 := s2.resolve_left h49
          rw [s4] at s1
          have := pi_if HG.out HP.out hkl hx r3 r4 s1
          rw [s3, s4, HV.out, HC0.out, hx]
          exact this
        rw [hx] at z1 HC HSm
        generalize cs[k].2 = x9 at *
        clear HP HG HR HIH HK HS0 HP0 HV HC0 HE hx HS
        go_wp2_with (first | (go_at_call 195; refine (HC.out _).mono ?_; clear HC; rintro e w' ⟨rfl, rfl⟩) | (go_at_call 194; refine HSm.out.mono ?_; clear HSm d1 d2 d3; rintro e w2 ⟨rfl, t0, t1, d1, d2, d3, HW2, HW3⟩) | (go_at_fn 193; first | (refine (HK1.out _ HW2.out HW3.out).mono ?_; clear HK1 t0 t1 d1 d2 d3 HW2 HW3; rintro e w4 ⟨m, y, x, rfl, hkm, hm, hy, z4, d1, d3, HI, HW4, HW5⟩) | (refine (HK2.out _ _ _ _ hkm HI.out (by simp_all; done) HW4.out HW5.out).mono ?_; clear HK2 HW5; rintro e w6 ⟨m2, z, rfl, hm2, hm2n, hz, HP6, HW5⟩)) | (go_at_call 194; refine (sum9_at _ _ _ _ (by simp)).mono ?_; rintro e w' ⟨rfl, rfl⟩) | fail)
        · have e1 : max y z = z := Nat.max_eq_right (by omega)
          rw [e1] at HP6
          exact ⟨⟨m2 + 1, cut (v + z), by go_num, rfl, by omega, cut_le _, HP6, hid9 (HW5.out.alloc HW5.out.size _)⟩, by simp [intOf]; omega⟩
        · have e1 : max y z = y := Nat.max_eq_left (by omega)
          rw [e1] at HP6
          exact ⟨⟨m2 + 1, cut (v + y), by go_num, rfl, by omega, cut_le _, HP6, hid9 (HW5.out.alloc HW5.out.size _)⟩, by simp [intOf]; omega⟩
        · have h49 : x ≠ 49 := by simp_all
          exact ⟨⟨m + 1, cut (v + y), by go_num, rfl, by omega, cut_le _, hid9 (HK3.out _ _ _ HI.out h49), hid9 (HW5.out.alloc HW5.out.size _)⟩, by simp [intOf]; omega⟩
      · have hmem := List.getElem_mem hkl
        have q1 := (HR.out.1 _ hmem).2 hx
        obtain ⟨i, hi⟩ : ∃ i : Nat, cs[k].2 = (i : Int) := ⟨_, (Int.toNat_of_nonneg q1).symm⟩
        have HKL : Hid (∀ W, Below wr.heap.size wr W → Below w.heap.size w W → W.cell? ⟨wr.heap.size, 1, none⟩ = some (.int .i64 (i : Int)) → Calls Tryz.prog 193 (#[.int .i64 ((k : Int) + 1)] ++ #[.pointer (some ⟨pc, 0, none⟩), .pointer (some ⟨pl, 0, none⟩), .pointer (some ⟨pp, 0, none⟩)]) W fun e w4 => ∃ m y : Nat, e = .returned (.tuple #[.int .i64 (y : Nat), .int .i64 (m : Nat)]) ∧ k < m ∧ m < n ∧ y ≤ 1048577 ∧ w4.cell? ⟨wr.heap.size, 1, none⟩ = some (.int .i64 (i : Int)) ∧ Hid (PI cal cs a (m + 1) (cut (v + cut (min i TM * y))) L) ∧ Hid (Below w.heap.size w w4)) := hid9 fun W b1 b2 hc => by
          have ho := pi_open HG.out HP.out.ar hkl (.inr hx)
          rw [hx] at ho
          refine (HK.out k _ W (Nat.le_refl _) hkl ho (by simp) b1).mono fun e w4 ⟨m, y, y0, r1, r2, r3, ⟨r4, r5, r6⟩, r7⟩ => ⟨m, y, r1, r3.le, by rw [HN.out]; exact r4, r2, below_keep r7 _ _ hc, hid9 ?_, hid9 (b2.trans (r7.mono b2.size))⟩
          rcases r5 with r5 | r5
          · have := (pi_else HG.out r3.ar r4 r5).1
            simp at this
          · have := pi_loop HG.out HP.out hkl hx r3 r4 r5
            rw [hi, Int.toNat_natCast] at this
            rw [r6, r5, HV.out, HC0.out, hx]
            exact this
        have HT : Hid (∀ (y : Nat) (W : World), y ≤ 1048577 → Calls Tryz.prog 196 #[.int .i64 (i : Int), .int .i64 (y : Int)] W fun e w5 => ∃ t : Nat, e = .returned (.int .i64 (t : Nat)) ∧ t ≤ 1048577 ∧ Hid (t = cut (min i TM * y)) ∧ Hid (Below W.heap.size W w5)) := hid9 fun y W hy => (times9_any i y hy W).mono fun e w5 ⟨h1, h2⟩ => ⟨_, h1, cut_le _, hid9 rfl, hid9 h2⟩
        rw [hx] at z1 HC HSm
        rw [hi] at z2 HSm
        clear HP HG HR HIH HK HS0 HP0 HV HC0 HE hx HS hmem q1 hi
        go_wp2_with (first | (go_at_call 195; refine (HC.out _).mono ?_; clear HC; rintro e w' ⟨rfl, rfl⟩) | (go_at_call 194; refine HSm.out.mono ?_; clear HSm d1 d2 d3; rintro e w2 ⟨rfl, t0, t1, d1, d2, d3, HW2, HW3⟩) | (go_at_fn 193; refine (HKL.out _ HW2.out HW3.out t1).mono ?_; clear HKL t0 t1 d1 d2 d3 HW2 HW3; rintro e w4 ⟨m, y, rfl, hkm, hm, hy, t1, HP4, HW4⟩) | (go_at_call 196; refine (HT.out _ _ hy).mono ?_; clear HT; rintro e w5 ⟨t, rfl, ht, HT5, HW5⟩) | (go_at_call 194; refine (sum9_at _ _ _ _ (by simp)).mono ?_; rintro e w' ⟨rfl, rfl⟩) | fail)
        have b5 := HW4.out.trans (HW5.out.mono HW4.out.size)
        exact ⟨⟨m + 1, cut (v + t), by go_num, rfl, by omega, cut_le _, by rw [HT5.out]; exact HP4, hid9 (b5.alloc b5.size _)⟩, by simp [intOf]; omega⟩
      · have HP2 := hid9 (pi_plain HG.out HP.out hkl x4 x1 x2 x5 x3)
        rw [← HC0.out, ← HV.out] at HP2
        have f1 : (cs[k].1 == 49) = false := by simpa using x1
        have f2 : (cs[k].1 == 50) = false := by simpa using x2
        have f3 : (cs[k].1 == 53) = false := by simpa using x3
        have f4 : (cs[k].1 == 48) = false := by simpa using x4
        have f5 : (cs[k].1 == 51) = false := by simpa using x5
        clear HP HG HR HIH HK HS0 HP0 HV HC0 HE x1 x2 x3 x4 x5 HS
        generalize cs[k].1 = x0 at *
        generalize cs[k].2 = x9 at *
        go_wp2_with (first | (go_at_call 195; refine (HC.out _).mono ?_; clear HC; rintro e w' ⟨rfl, rfl⟩) | (go_at_call 194; refine HSm.out.mono ?_; clear HSm d1 d2 d3; rintro e w2 ⟨rfl, t0, t1, d1, d2, d3, HW2, HW3⟩) | fail)
        exact ⟨⟨k + 1, v, by go_num, rfl, by omega, hvl, HP2, HW3⟩, by simp [intOf]; omega⟩
    · obtain rfl : k = n := by omega
      have HE : Hid (PEnd cs cal a L w (.returned (.tuple #[.int .i64 (g : Nat), .int .i64 (k : Nat)])) wr) := hid9 ⟨k, g, g, rfl, HP.out, HP.out.gl, fun _ => rfl, fun h => by rw [← HN.out] at h; omega, HW.out⟩
      clear HP HG HR HIH HS0 HP0 HS
      go_wp2_with fail
      go_ret2
      exact HE.out
/-- The closure, from any place. -/
theorem parts_any (b : GBox) (cs : List (Int × Int)) (cal : List Int) (hg : goodS cs = true) (hr : rightN cs cal) (hn : cs.length ≤ 9000000000000) : ∀ (u a : Nat) (L : List (Bool × Bool)) (w : World), cs.length - a ≤ u → a ≤ cs.length → arun (cs.take a) [] = some L → GSt b cs cal w →
    Calls Tryz.prog 193 (#[.int .i64 (a : Nat)] ++ b.fr) w (PEnd cs cal a L w) := by
  intro u
  induction u with
  | zero =>
    intro a L w hu ha hL h
    exact parts_step b cs cal hg hr hn a ha L hL w h fun a' L' w' h1 h2 _ _ => by omega
  | succ u ih =>
    intro a L w hu ha hL h
    exact parts_step b cs cal hg hr hn a ha L hL w h fun a' L' w' h1 h2 h3 h4 => ih a' L' w' (by omega) h2 h3 h4
end Go.Proofs.YtfnpngbcnmglfaaGreat
