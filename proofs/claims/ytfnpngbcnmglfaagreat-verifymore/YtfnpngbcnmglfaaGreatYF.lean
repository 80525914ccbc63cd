/- Layer 9: slices.ContainsFunc, of functions that may draw and lay; rightNumbers. Layer 9: rightNumbers, gasOf, Part. Layer 9: gasOf, Part. law06: num, knows. -/
import Derived.Test.YtfnpngbcnmglfaaGreatYE
import Derived.Test.YtfnpngbcnmglfaaGreatSH
import Derived.Test.YtfnpngbcnmglfaaGreatCS
namespace Go.Proofs.YtfnpngbcnmglfaaGreat
open Go.RowKit
/-- The first place that p holds at, or -1. -/
def idx9 {α : Type} (p : α → Bool) (zs : List α) : Int := match zs.findIdx? p with | some i => (i : Int) | none => -1
theorem idx9_none {α : Type} {p : α → Bool} {zs : List α} (h : ∀ j (hj : j < zs.length), p zs[j] = false) : idx9 p zs = -1 := by
  have : zs.findIdx? p = none := by
    rw [List.findIdx?_eq_none_iff]
    intro x hx
    obtain ⟨j, hj, rfl⟩ := List.mem_iff_getElem.1 hx
    exact h j hj
  rw [idx9, this]
theorem idx9_some {α : Type} {p : α → Bool} {zs : List α} {k : Nat} (hk : k < zs.length) (h : ∀ j (hj : j < zs.length), j < k → p zs[j] = false) (hp : p zs[k] = true) : idx9 p zs = k := by
  have : zs.findIdx? p = some k := by
    rw [List.findIdx?_eq_some_iff_getElem]
    exact ⟨hk, hp, fun j hj => by rw [h j (by omega) hj]; simp⟩
  rw [idx9, this]
theorem idx9_nonneg {α : Type} (p : α → Bool) (zs : List α) : decide (0 ≤ idx9 p zs) = zs.any p := by
  unfold idx9
  cases e : zs.findIdx? p with
  | none =>
    rw [List.findIdx?_eq_none_iff] at e
    have : zs.any p = false := by rw [List.any_eq_false]; intro x hx; rw [e x hx]; simp
    rw [this]; rfl
  | some i =>
    rw [List.findIdx?_eq_some_iff_getElem] at e
    obtain ⟨h, h1, _⟩ := e
    have : zs.any p = true := List.any_eq_true.2 ⟨_, List.getElem_mem h, h1⟩
    rw [this]; simp
/-- The function value F tells p of the members of zs, and what lies below stays. -/
def Tells9 {α : Type} (enc : α → Value) (F : Nat) (fr : Array Value) (W : World) (zs : List α) (p : α → Bool) : Prop := ∀ x ∈ zs, ∀ W', Below W.heap.size W W' → Calls Tryz.prog F (#[enc x] ++ fr) W' fun e w' => e = .returned (.bool (p x)) ∧ Below W'.heap.size W' w'
def encI (x : Int × Int) : Value := .agg #[.int .i64 x.1, .int .i64 x.2]
set_option maxRecDepth 100000 in
set_option maxHeartbeats 1000000 in
theorem index9I_any (zs : List (Int × Int)) (a : Option Addr) (n c : Nat) (hn : zs.length = n) (bn : n ≤ 9000000000000) (W : World) (F : Nat) (fr : Array Value) (eF : ∀ args w, (callFunc F args).run Tryz.prog w = .ok (.enter F args) w) (p : Int × Int → Bool) (hz : IsAt W.cell? a zs) (hF : Tells9 encI F fr W zs p) :
    Calls Tryz.prog 222 #[.slice a n c, .func (.func F) #[] fr] W fun e w' => e = .returned (.int .i64 (idx9 p zs)) ∧ Below W.heap.size W w' := by
  have HN := hid9 hn
  have HZ := hid9 hz
  have HF := hid9 hF
  clear hn hz hF
  go_enter Tryz.func222, Tryz.ntmps222
  go_wp2_with fail
  go_loopw [8] (fun iv wr => ∃ k : Nat, iv = .int .i64 k ∧ k ≤ n ∧ Hid (Below W.heap.size W wr) ∧ Hid (∀ j (hj : j < zs.length), j < k → p zs[j] = false)) (fun iv _ => n - (intOf iv).toNat)
  case atStart => exact ⟨0, rfl, Nat.zero_le _, hid9 (Below.refl _ _), hid9 fun j _ h => by omega⟩
  case round =>
    obtain ⟨k, rfl, hk, HW, HP⟩ := hrel
    by_cases hlt : k < n
    · have hkl : k < zs.length := by rw [HN.out]; exact hlt
      obtain ⟨zb, zo, e1, z1, z2⟩ : ∃ zb zo, a = some ⟨zb, zo, none⟩ ∧ wr.cell? ⟨zb, zo + k * 2, none⟩ = some (.int .i64 zs[k].1) ∧ wr.cell? ⟨zb, zo + k * 2 + 1, none⟩ = some (.int .i64 zs[k].2) := by
        rcases HZ.out with h | ⟨b, o, e, h⟩
        · rw [h] at hkl; cases hkl
        · exact ⟨b, o, e, below_keep HW.out _ _ (h k hkl).1, below_keep HW.out _ _ (h k hkl).2⟩
      subst e1
      have HC : Hid (Calls Tryz.prog F (#[.agg #[.int .i64 zs[k].1, .int .i64 zs[k].2]] ++ fr) wr fun e w' => e = .returned (.bool (p zs[k])) ∧ Hid (Below W.heap.size W w')) := hid9 ((HF.out zs[k] (List.getElem_mem hkl) wr HW.out).mono fun e w' ⟨h1, h2⟩ => ⟨h1, hid9 (HW.out.trans (h2.mono HW.out.size))⟩)
      cases hp : p zs[k] with
      | true =>
        have HE := hid9 (idx9_some hkl HP.out hp)
        rw [hp] at HC
        generalize zs[k].1 = x0 at *
        generalize zs[k].2 = x9 at *
        clear HP HF HZ hp HW
        go_wp2_with (first | (go_at_fn F; refine HC.out.mono ?_; clear HC; rintro e w4 ⟨rfl, HW⟩) | fail)
        go_ret
        exact ⟨by rw [HE.out]; rfl, HW.out⟩
      | false =>
        have HP2 : Hid (∀ j (hj : j < zs.length), j < k + 1 → p zs[j] = false) := hid9 fun j hj hjk => by
          by_cases e : j = k
          · subst e; exact hp
          · exact HP.out j hj (by omega)
        rw [hp] at HC
        generalize zs[k].1 = x0 at *
        generalize zs[k].2 = x9 at *
        clear HP HF HZ hp HW
        go_wp2_with (first | (go_at_fn F; refine HC.out.mono ?_; clear HC; rintro e w4 ⟨rfl, HW⟩) | fail)
        exact ⟨⟨k + 1, by go_num, by omega, HW, HP2⟩, by simp [intOf]; omega⟩
    · obtain rfl : k = n := by omega
      have HE : Hid (idx9 p zs = -1) := hid9 (idx9_none fun j hj => HP.out j hj (by rw [← HN.out]; exact hj))
      clear HP HF HZ
      go_wp2_with fail
      go_ret
      exact ⟨by rw [HE.out]; rfl, HW.out⟩
set_option maxRecDepth 100000 in
set_option maxHeartbeats 1000000 in
theorem contains9I_any (zs : List (Int × Int)) (a : Option Addr) (n c : Nat) (hn : zs.length = n) (bn : n ≤ 9000000000000) (W : World) (F : Nat) (fr : Array Value) (eF : ∀ args w, (callFunc F args).run Tryz.prog w = .ok (.enter F args) w) (p : Int × Int → Bool) (hz : IsAt W.cell? a zs) (hF : Tells9 encI F fr W zs p) :
    Calls Tryz.prog 192 #[.slice a n c, .func (.func F) #[] fr] W fun e w' => e = .returned (.bool (zs.any p)) ∧ Below W.heap.size W w' := by
  have HI := hid9 (index9I_any zs a n c hn bn W F fr eF p hz hF)
  have e6 : ∀ args w, (callFunc 222 args).run Tryz.prog w = .ok (.enter 222 args) w := enters_of Tryz.func222 (by kernel_rfl) rfl
  rw [← idx9_nonneg]
  generalize idx9 p zs = i at HI ⊢
  clear hn hz hF
  go_enter Tryz.func192, Tryz.ntmps192
  go_wp2_with (first | (go_at_fn 222; refine HI.out.mono ?_; clear HI; rintro e w' ⟨rfl, HW⟩) | fail)
  go_ret
  exact ⟨rfl, HW⟩
def encN (x : Int) : Value := .int .i64 x
set_option maxRecDepth 100000 in
set_option maxHeartbeats 1000000 in
theorem index9N_any (zs : List Int) (a : Option Addr) (n c : Nat) (hn : zs.length = n) (bn : n ≤ 18000000000000) (W : World) (F : Nat) (fr : Array Value) (eF : ∀ args w, (callFunc F args).run Tryz.prog w = .ok (.enter F args) w) (p : Int → Bool) (hz : NsAt W.cell? a zs) (hF : Tells9 encN F fr W zs p) :
    Calls Tryz.prog 90 #[.slice a n c, .func (.func F) #[] fr] W fun e w' => e = .returned (.int .i64 (idx9 p zs)) ∧ Below W.heap.size W w' := by
  have HN := hid9 hn
  have HZ := hid9 hz
  have HF := hid9 hF
  clear hn hz hF
  go_enter Tryz.func90, Tryz.ntmps90
  go_wp2_with fail
  go_loopw [8] (fun iv wr => ∃ k : Nat, iv = .int .i64 k ∧ k ≤ n ∧ Hid (Below W.heap.size W wr) ∧ Hid (∀ j (hj : j < zs.length), j < k → p zs[j] = false)) (fun iv _ => n - (intOf iv).toNat)
  case atStart => exact ⟨0, rfl, Nat.zero_le _, hid9 (Below.refl _ _), hid9 fun j _ h => by omega⟩
  case round =>
    obtain ⟨k, rfl, hk, HW, HP⟩ := hrel
    by_cases hlt : k < n
    · have hkl : k < zs.length := by rw [HN.out]; exact hlt
      obtain ⟨zb, zo, e1, z1⟩ : ∃ zb zo, a = some ⟨zb, zo, none⟩ ∧ wr.cell? ⟨zb, zo + k, none⟩ = some (.int .i64 zs[k]) := by
        rcases HZ.out with h | ⟨b, o, e, h⟩
        · rw [h] at hkl; cases hkl
        · exact ⟨b, o, e, below_keep HW.out _ _ (h k hkl)⟩
      subst e1
      have HC : Hid (Calls Tryz.prog F (#[.int .i64 zs[k]] ++ fr) wr fun e w' => e = .returned (.bool (p zs[k])) ∧ Hid (Below W.heap.size W w')) := hid9 ((HF.out zs[k] (List.getElem_mem hkl) wr HW.out).mono fun e w' ⟨h1, h2⟩ => ⟨h1, hid9 (HW.out.trans (h2.mono HW.out.size))⟩)
      cases hp : p zs[k] with
      | true =>
        have HE := hid9 (idx9_some hkl HP.out hp)
        rw [hp] at HC
        generalize zs[k] = z at *
        clear HP HF HZ hp HW
        go_wp2_with (first | (go_at_fn F; refine HC.out.mono ?_; clear HC; rintro e w4 ⟨rfl, HW⟩) | fail)
        go_ret
        exact ⟨by rw [HE.out]; rfl, HW.out⟩
      | false =>
        have HP2 : Hid (∀ j (hj : j < zs.length), j < k + 1 → p zs[j] = false) := hid9 fun j hj hjk => by
          by_cases e : j = k
          · subst e; exact hp
          · exact HP.out j hj (by omega)
        rw [hp] at HC
        generalize zs[k] = z at *
        clear HP HF HZ hp HW
        go_wp2_with (first | (go_at_fn F; refine HC.out.mono ?_; clear HC; rintro e w4 ⟨rfl, HW⟩) | fail)
        exact ⟨⟨k + 1, by go_num, by omega, HW, HP2⟩, by simp [intOf]; omega⟩
    · obtain rfl : k = n := by omega
      have HE : Hid (idx9 p zs = -1) := hid9 (idx9_none fun j hj => HP.out j hj (by rw [← HN.out]; exact hj))
      clear HP HF HZ
      go_wp2_with fail
      go_ret
      exact ⟨by rw [HE.out]; rfl, HW.out⟩
set_option maxRecDepth 100000 in
set_option maxHeartbeats 1000000 in
theorem contains9N_any (zs : List Int) (a : Option Addr) (n c : Nat) (hn : zs.length = n) (bn : n ≤ 18000000000000) (W : World) (F : Nat) (fr : Array Value) (eF : ∀ args w, (callFunc F args).run Tryz.prog w = .ok (.enter F args) w) (p : Int → Bool) (hz : NsAt W.cell? a zs) (hF : Tells9 encN F fr W zs p) :
    Calls Tryz.prog 89 #[.slice a n c, .func (.func F) #[] fr] W fun e w' => e = .returned (.bool (zs.any p)) ∧ Below W.heap.size W w' := by
  have HI := hid9 (index9N_any zs a n c hn bn W F fr eF p hz hF)
  have e6 : ∀ args w, (callFunc 90 args).run Tryz.prog w = .ok (.enter 90 args) w := enters_of Tryz.func90 (by kernel_rfl) rfl
  rw [← idx9_nonneg]
  generalize idx9 p zs = i at HI ⊢
  clear hn hz hF
  go_enter Tryz.func89, Tryz.ntmps89
  go_wp2_with (first | (go_at_fn 90; refine HI.out.mono ?_; clear HI; rintro e w' ⟨rfl, HW⟩) | fail)
  go_ret
  exact ⟨rfl, HW⟩
end Go.Proofs.YtfnpngbcnmglfaaGreat
namespace Go.Proofs.YtfnpngbcnmglfaaGreat
open Go.RowKit
def wrong9 (l : Nat) (x : Int × Int) : Bool := if x.1 = 53 then decide (x.2 < 0 ∨ (l : Int) ≤ x.2) else if x.1 = 51 then decide (x.2 < 0) else false
def below9 (x : Int) : Bool := decide (x < 0)
def rightB (cs : List (Int × Int)) (cal : List Int) : Bool := !cs.any (wrong9 cal.length) && !cal.any below9
theorem right_of {cs : List (Int × Int)} {cal : List Int} (h : rightB cs cal = true) : rightN cs cal := by
  unfold rightB at h
  rw [Bool.and_eq_true, Bool.not_eq_true', Bool.not_eq_true', List.any_eq_false, List.any_eq_false] at h
  refine ⟨fun x hx => ⟨fun e => ?_, fun e => ?_⟩, fun n hn => ?_⟩
  · have := h.1 x hx
    simp only [wrong9, e, if_true, decide_eq_true_eq] at this
    omega
  · have := h.1 x hx
    simp only [wrong9, e] at this
    simp at this
    omega
  · have := h.2 n hn
    simp only [below9, decide_eq_true_eq] at this
    omega
set_option maxRecDepth 100000 in
set_option maxHeartbeats 1000000 in
theorem wrong9_any (pl l c : Nat) (la : Option Addr) (x : Int × Int) (w : World) (h : w.cell? ⟨pl, 0, none⟩ = some (.slice la l c)) :
    Calls Tryz.prog 190 #[.agg #[.int .i64 x.1, .int .i64 x.2], .pointer (some ⟨pl, 0, none⟩)] w fun e w' => e = .returned (.bool (wrong9 l x)) ∧ Below w.heap.size w w' := by
  obtain ⟨x0, x9⟩ := x
  have b1 := (Below.refl _ w).alloc (Nat.le_refl _) (.cells #[.int .i64 x0, .int .i64 x9] 83)
  have h2 := below_keep b1 _ _ h
  obtain ⟨r, hr⟩ : ∃ r, r = wrong9 l (x0, x9) := ⟨_, rfl⟩
  rw [← hr]
  have HR := hid9 hr
  clear hr
  go_enter Tryz.func190, Tryz.ntmps190
  go_wp2_with fail
  all_goals
    go_ret
    refine ⟨?_, b1⟩
    rw [HR.out]
    unfold wrong9
    simp_all
set_option maxRecDepth 100000 in
theorem below9_any (x : Int) (w : World) : Calls Tryz.prog 191 #[.int .i64 x] w fun e w' => e = .returned (.bool (below9 x)) ∧ w' = w := by
  unfold below9
  go_enter Tryz.func191, Tryz.ntmps191
  go_wp2_with fail
  go_ret
  exact ⟨rfl, rfl⟩
set_option maxRecDepth 100000 in
set_option maxHeartbeats 1000000 in
theorem right9_any (cs : List (Int × Int)) (cal : List Int) (ca la : Option Addr) (cc lc : Nat) (hn : cs.length ≤ 9000000000000) (hl : cal.length ≤ 18000000000000) (w : World) (hi : IsAt w.cell? ca cs) (hz : NsAt w.cell? la cal) :
    Calls Tryz.prog 143 #[.slice ca cs.length cc, .slice la cal.length lc] w fun e w' => e = .returned (.bool (rightB cs cal)) ∧ Below w.heap.size w w' := by
  obtain ⟨W, hW⟩ : ∃ W, W = w.alloc (.cells #[.slice la cal.length lc] 28) := ⟨_, rfl⟩
  have b1 := (Below.refl _ w).alloc (Nat.le_refl _) (.cells #[.slice la cal.length lc] 28)
  have c1 : W.cell? ⟨w.heap.size, 0, none⟩ = some (.slice la cal.length lc) := by rw [hW]; exact Lib.cell_of_heap (heap_alloc_new w _) 0
  rw [← hW] at b1
  have e1 : ∀ args w, (callFunc 190 args).run Tryz.prog w = .ok (.enter 190 args) w := enters_of Tryz.func190 (by kernel_rfl) rfl
  have e2 : ∀ args w, (callFunc 191 args).run Tryz.prog w = .ok (.enter 191 args) w := enters_of Tryz.func191 (by kernel_rfl) rfl
  have T1 : Tells9 encI 190 #[.pointer (some ⟨w.heap.size, 0, none⟩)] W cs (wrong9 cal.length) := fun x hx W' hb => by
    show Calls Tryz.prog 190 #[.agg #[.int .i64 x.1, .int .i64 x.2], .pointer (some ⟨w.heap.size, 0, none⟩)] W' _
    exact wrong9_any w.heap.size cal.length lc la x W' (below_keep hb _ _ c1)
  have T2 : ∀ W', Tells9 encN 191 #[] W' cal below9 := fun W' x hx W2 hb2 => by
    show Calls Tryz.prog 191 #[.int .i64 x] W2 _
    exact (below9_any x W2).mono fun e w' ⟨h1, h2⟩ => ⟨h1, by rw [h2]; exact Below.refl _ _⟩
  have HC1 : Hid (Calls Tryz.prog 192 #[.slice ca cs.length cc, .func (.func 190) #[] #[.pointer (some ⟨w.heap.size, 0, none⟩)]] W fun e w' => e = .returned (.bool (cs.any (wrong9 cal.length))) ∧ w'.cell? ⟨w.heap.size, 0, none⟩ = some (.slice la cal.length lc) ∧ Hid (NsAt w'.cell? la cal) ∧ Hid (Below w.heap.size w w')) := hid9 ((contains9I_any cs ca cs.length cc rfl hn W 190 #[.pointer (some ⟨w.heap.size, 0, none⟩)] e1 (wrong9 cal.length) (hi.keep (below_keep b1)) T1).mono fun e w' ⟨h1, h2⟩ => ⟨h1, below_keep h2 _ _ c1, hid9 (hz.keep (below_keep (b1.trans (h2.mono b1.size)))), hid9 (b1.trans (h2.mono b1.size))⟩)
  have HC2 : Hid (∀ W', NsAt W'.cell? la cal → Below w.heap.size w W' → Calls Tryz.prog 89 #[.slice la cal.length lc, .func (.func 191) #[] #[]] W' fun e w' => e = .returned (.bool (cal.any below9)) ∧ Hid (Below w.heap.size w w')) := hid9 fun W' hz' hb => (contains9N_any cal la cal.length lc rfl hl W' 191 #[] e2 below9 hz' (T2 W')).mono fun e w' ⟨h1, h2⟩ => ⟨h1, hid9 (hb.trans (h2.mono hb.size))⟩
  unfold rightB
  generalize cs.any (wrong9 cal.length) = r1 at *
  generalize cal.any below9 = r2 at *
  rw [hW] at HC1
  clear hi hz b1 e1 e2 hW T1 T2
  go_enter Tryz.func143, Tryz.ntmps143
  go_wp2_with (first | (go_at_call 192; refine HC1.out.mono ?_; clear HC1; rintro e w4 ⟨rfl, c4, HZ4, HB4⟩) | (go_at_call 89; refine (HC2.out _ HZ4.out HB4.out).mono ?_; clear HC2 HB4; rintro e w5 ⟨rfl, HB4⟩) | fail)
  all_goals
    go_ret
    exact ⟨by simp_all, HB4.out⟩
end Go.Proofs.YtfnpngbcnmglfaaGreat
namespace Go.Proofs.YtfnpngbcnmglfaaGreat
open Go.RowKit
set_option maxRecDepth 100000 in
set_option maxHeartbeats 1000000 in
theorem gasOf_any (cs : List (Int × Int)) (cal : List Int) (ca la : Option Addr) (cc lc : Nat) (hg : goodS cs = true) (hr : rightN cs cal) (hn : cs.length ≤ 9000000000000) (w : World) (hi : IsAt w.cell? ca cs) (hz : NsAt w.cell? la cal) :
    Calls Tryz.prog 144 #[.slice ca cs.length cc, .slice la cal.length lc] w fun e w' => e = .returned (.int .i64 (gasS cal cs : Nat)) ∧ Below w.heap.size w w' := by
  have hsf : ∀ (W : World) (a : Addr) (q : Go.Fn) (x y : Array Value), (store a (.func q x y)).run Tryz.prog W = stored Tryz.prog W a (.func q x y) _ := fun W a q x y => run_store Tryz.prog W a _ _ rfl
  have eF : ∀ args w, (callFunc 193 args).run Tryz.prog w = .ok (.enter 193 args) w := enters_of Tryz.func193 (by kernel_rfl) rfl
  have HC : Hid (Calls Tryz.prog 193 #[.int .i64 0, .pointer (some ⟨w.heap.size, 0, none⟩), .pointer (some ⟨w.heap.size + 1, 0, none⟩), .pointer (some ⟨w.heap.size + 1 + 1, 0, none⟩)] (((w.alloc (.cells #[.slice ca cs.length cc] 47)).alloc (.cells #[.slice la cal.length lc] 28)).alloc (.cells #[.func (.func 193) #[] #[.pointer (some ⟨w.heap.size, 0, none⟩), .pointer (some ⟨w.heap.size + 1, 0, none⟩), .pointer (some ⟨w.heap.size + 1 + 1, 0, none⟩)]] 231)) fun e w' => ∃ m : Nat, e = .returned (.tuple #[.int .i64 (gasS cal cs : Nat), .int .i64 (m : Nat)]) ∧ Hid (Below w.heap.size w w')) := hid9 (by
    obtain ⟨w1, e1⟩ : ∃ w1, w1 = w.alloc (.cells #[.slice ca cs.length cc] 47) := ⟨_, rfl⟩
    obtain ⟨w2, e2⟩ : ∃ w2, w2 = w1.alloc (.cells #[.slice la cal.length lc] 28) := ⟨_, rfl⟩
    obtain ⟨fv, ef⟩ : ∃ fv : Value, fv = .func (.func 193) #[] #[.pointer (some ⟨w.heap.size, 0, none⟩), .pointer (some ⟨w.heap.size + 1, 0, none⟩), .pointer (some ⟨w.heap.size + 1 + 1, 0, none⟩)] := ⟨_, rfl⟩
    obtain ⟨W, e3⟩ : ∃ W, W = w2.alloc (.cells #[fv] 231) := ⟨_, rfl⟩
    rw [← e1, ← e2, ← ef, ← e3]
    have z1 : w1.heap.size = w.heap.size + 1 := by rw [e1]; simp
    have z2 : w2.heap.size = w.heap.size + 1 + 1 := by rw [e2]; simp [z1]
    have b1 : Below w.heap.size w w1 := by rw [e1]; exact (Below.refl _ w).alloc (Nat.le_refl _) _
    have b2 : Below w1.heap.size w1 w2 := by rw [e2]; exact (Below.refl _ w1).alloc (Nat.le_refl _) _
    have b3 : Below w2.heap.size w2 W := by rw [e3]; exact (Below.refl _ w2).alloc (Nat.le_refl _) _
    have c1 : w1.cell? ⟨w.heap.size, 0, none⟩ = some (.slice ca cs.length cc) := by rw [e1]; exact Lib.cell_of_heap (heap_alloc_new w _) 0
    have c2 : w2.cell? ⟨w.heap.size + 1, 0, none⟩ = some (.slice la cal.length lc) := by rw [e2, ← z1]; exact Lib.cell_of_heap (heap_alloc_new w1 _) 0
    have c3 : W.cell? ⟨w.heap.size + 1 + 1, 0, none⟩ = some fv := by rw [e3, ← z2]; exact Lib.cell_of_heap (heap_alloc_new w2 _) 0
    have k2 : Below w1.heap.size w1 W := b2.trans (b3.mono b2.size)
    have k1 : Below w.heap.size w W := b1.trans (k2.mono b1.size)
    have hst : GSt ⟨w.heap.size, w.heap.size + 1, w.heap.size + 1 + 1, cc, lc, ca, la⟩ cs cal W := ⟨below_keep k2 _ _ c1, below_keep b3 _ _ c2, by rw [ef] at c3; exact c3, hi.keep (below_keep k1), hz.keep (below_keep k1)⟩
    refine Calls.mono (parts_any ⟨w.heap.size, w.heap.size + 1, w.heap.size + 1 + 1, cc, lc, ca, la⟩ cs cal hg hr hn cs.length 0 [] W (by omega) (by omega) rfl hst) fun e w' ⟨m, g, g0, q1, q2, q3, q4, q5, q6⟩ => ⟨m, ?_, hid9 (k1.trans (q6.mono k1.size))⟩
    have hm : m = cs.length := by
      rcases Nat.lt_or_ge m cs.length with q | q
      · exfalso
        have := (good_stand hg q q2.ar).1
        rcases (q5 q).1 with h | h
        · rw [h] at this; simp [astand] at this
        · rw [h] at this; simp [astand] at this
      · exact Nat.le_antisymm q2.kn q
    have hgg := q4 hm
    rw [hm] at q2
    rw [pi_gas q2, ← hgg]
    exact q1)
  generalize gasS cal cs = gv at *
  clear hi hz hg hr
  go_enter Tryz.func144, Tryz.ntmps144
  go_wp2_with (first | (go_at_fn 193; refine HC.out.mono ?_; clear HC; rintro e w' ⟨m, rfl, HW⟩) | fail)
  go_ret
  exact ⟨rfl, HW.out⟩
/-- What Part answers. -/
def partS (cs : List (Int × Int)) (cal : List Int) : Nat × Int := if goodS cs = true then (if rightB cs cal = true then (gasS cal cs, 0) else (0, 1)) else (0, 31)
set_option maxRecDepth 100000 in
set_option maxHeartbeats 1000000 in
theorem part9_any (cs : List (Int × Int)) (cal : List Int) (ca la : Option Addr) (cc lc : Nat) (hn : cs.length ≤ 9000000000000) (hl : cal.length ≤ 18000000000000) (w : World) (hi : IsAt w.cell? ca cs) (hz : NsAt w.cell? la cal) :
    Calls Tryz.prog 92 #[.slice ca cs.length cc, .slice la cal.length lc] w fun e w' => e = .returned (.tuple #[.int .i64 ((partS cs cal).1 : Nat), .int .i64 (partS cs cal).2]) ∧ Below w.heap.size w w' := by
  have HM : Hid (Calls Tryz.prog 81 #[.slice ca cs.length cc] w (MatchEnd cs w)) := hid9 (by
    rcases hi with h | ⟨cb, co, e, h⟩
    · exact match_any cs ca cc 0 0 (.inl h) hn w fun j hj => by rw [h] at hj; cases hj
    · exact match_any cs ca cc cb co (.inr e) hn w h)
  have HR : Hid (∀ W, Below w.heap.size w W → Calls Tryz.prog 143 #[.slice ca cs.length cc, .slice la cal.length lc] W fun e w' => e = .returned (.bool (rightB cs cal)) ∧ Hid (Below w.heap.size w w')) := hid9 fun W hb => (right9_any cs cal ca la cc lc hn hl W (hi.keep (below_keep hb)) (hz.keep (below_keep hb))).mono fun e w' ⟨h1, h2⟩ => ⟨h1, hid9 (hb.trans (h2.mono hb.size))⟩
  by_cases hg : goodS cs = true
  · replace HM : Hid (Calls Tryz.prog 81 #[.slice ca cs.length cc] w fun e w' => ∃ g : Nat, e = .returned (.tuple #[.slice (some ⟨g, 0, none⟩) cs.length cs.length, .int .i64 0]) ∧ Hid (Below w.heap.size w w')) := hid9 (HM.out.mono fun e w' ⟨h1, h2⟩ => by
      rw [if_pos hg] at h1
      obtain ⟨g, _, h1, _⟩ := h1
      exact ⟨g, h1, hid9 h2⟩)
    by_cases hr : rightB cs cal = true
    · rw [show partS cs cal = (gasS cal cs, 0) from by unfold partS; rw [if_pos hg, if_pos hr]]
      rw [hr] at HR
      have HG : Hid (∀ W, Below w.heap.size w W → Calls Tryz.prog 144 #[.slice ca cs.length cc, .slice la cal.length lc] W fun e w' => e = .returned (.int .i64 (gasS cal cs : Nat)) ∧ Hid (Below w.heap.size w w')) := hid9 fun W hb => (gasOf_any cs cal ca la cc lc hg (right_of hr) hn W (hi.keep (below_keep hb)) (hz.keep (below_keep hb))).mono fun e w' ⟨h1, h2⟩ => ⟨h1, hid9 (hb.trans (h2.mono hb.size))⟩
      generalize gasS cal cs = gv at *
      clear hi hz hg hr
      go_enter Tryz.func92, Tryz.ntmps92
      go_wp2_with (first | (go_at_call 81; refine HM.out.mono ?_; clear HM; rintro e w1 ⟨g, rfl, HW⟩) | (go_at_call 143; refine (HR.out _ HW.out).mono ?_; clear HR HW; rintro e w2 ⟨rfl, HW⟩) | (go_at_call 144; refine (HG.out _ HW.out).mono ?_; clear HG HW; rintro e w3 ⟨rfl, HW⟩) | fail)
      go_ret2
      exact ⟨rfl, HW.out⟩
    · rw [show partS cs cal = (0, 1) from by unfold partS; rw [if_pos hg, if_neg hr]]
      rw [Bool.not_eq_true] at hr
      rw [hr] at HR
      clear hi hz hg hr
      go_enter Tryz.func92, Tryz.ntmps92
      go_wp2_with (first | (go_at_call 81; refine HM.out.mono ?_; clear HM; rintro e w1 ⟨g, rfl, HW⟩) | (go_at_call 143; refine (HR.out _ HW.out).mono ?_; clear HR HW; rintro e w2 ⟨rfl, HW⟩) | fail)
      go_ret2
      exact ⟨rfl, HW.out⟩
  · rw [show partS cs cal = (0, 31) from by unfold partS; rw [if_neg hg]]
    replace HM : Hid (Calls Tryz.prog 81 #[.slice ca cs.length cc] w fun e w' => e = .returned (.tuple #[.slice none 0 0, .int .i64 31]) ∧ Hid (Below w.heap.size w w')) := hid9 (HM.out.mono fun e w' ⟨h1, h2⟩ => by
      rw [if_neg hg] at h1
      exact ⟨h1, hid9 h2⟩)
    clear hi hz hg HR
    go_enter Tryz.func92, Tryz.ntmps92
    go_wp2_with (first | (go_at_call 81; refine HM.out.mono ?_; clear HM; rintro e w1 ⟨rfl, HW⟩) | fail)
    go_ret2
    exact ⟨rfl, HW.out⟩
end Go.Proofs.YtfnpngbcnmglfaaGreat
namespace Go.Proofs.YtfnpngbcnmglfaaGreat
open Go.RowKit
def kA : List (Int × Int) := [(48, 0), (49, 0), (50, 0)]
def kB : List (Int × Int) := [(51, 1), (52, 0), (50, 0)]
theorem goodA : goodS kA = true := by decide
theorem goodB : goodS kB = true := by decide
theorem matchA : matchS kA = [1, 2, 0] := by decide
theorem matchB : matchS kB = [2, 2, 0] := by decide
theorem six_cells {w : World} {b : Nat} {a0 a1 a2 a3 a4 a5 : Int} (h : w.heap[b]? = some (.cells #[.int .i64 a0, .int .i64 a1, .int .i64 a2, .int .i64 a3, .int .i64 a4, .int .i64 a5] 83 (0, 0))) : ∀ j (hj : j < [(a0, a1), (a2, a3), (a4, a5)].length), w.cell? ⟨b, 0 + j * 2, none⟩ = some (.int .i64 [(a0, a1), (a2, a3), (a4, a5)][j].1) ∧ w.cell? ⟨b, 0 + j * 2 + 1, none⟩ = some (.int .i64 [(a0, a1), (a2, a3), (a4, a5)][j].2) := by
  intro j hj
  rcases j with _ | _ | _ | j
  · simp [World.cell?, h]
  · simp [World.cell?, h]
  · simp [World.cell?, h]
  · simp at hj; omega
theorem NumBlk.ns {g : Nat} {ms : List Int} {W : World} (h : NumBlk g ms W) : NsAt W.cell? (some ⟨g, 0, none⟩) ms := .inr ⟨g, 0, rfl, fun j hj => by rw [Nat.zero_add]; exact (h.at j hj).1⟩
theorem NumBlk.keep {g : Nat} {ms : List Int} {W W' : World} (h : NumBlk g ms W) (hb : Below W.heap.size W W') : NumBlk g ms W' := (hb.block _ (blk_lt h)).trans h
theorem matchK (cs : List (Int × Int)) (hg : goodS cs = true) (hn : cs.length ≤ 1000) (b : Nat) (w : World) (hc : ∀ j (h : j < cs.length), w.cell? ⟨b, 0 + j * 2, none⟩ = some (.int .i64 cs[j].1) ∧ w.cell? ⟨b, 0 + j * 2 + 1, none⟩ = some (.int .i64 cs[j].2)) : Calls Tryz.prog 81 #[.slice (some ⟨b, 0, none⟩) cs.length cs.length] w fun e w' => ∃ g, e = .returned (.tuple #[.slice (some ⟨g, 0, none⟩) cs.length cs.length, .int .i64 0]) ∧ NumBlk g (matchS cs) w' ∧ Below w.heap.size w w' := by
  refine (match_any cs (some ⟨b, 0, none⟩) cs.length b 0 (.inr rfl) (by omega) w hc).mono ?_
  rintro e w' ⟨h1, h2⟩
  rw [if_pos hg] at h1
  obtain ⟨g, _, he, hN⟩ := h1
  exact ⟨g, he, hN, h2⟩
end Go.Proofs.YtfnpngbcnmglfaaGreat
