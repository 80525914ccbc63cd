/- Layer 9: slices.ContainsFunc, of functions that may draw and lay; rightNumbers. -/
import Derived.Test.YtodagpmcmjleaaaYE
namespace Go.Proofs.Ytodagpmcmjleaaa
open Go.RowKit
/-- The first place that p holds at, or -1. -/
def idx9 {α : Type} (p : α → Bool) (zs : List α) : Int := match zs.findIdx? p with | some i => (i : Int) | none => -1
theorem idx9_none {α : Type} {p : α → Bool} {zs : List α} (h : ∀ j (hj : j < zs.length), p zs[j] = false) : idx9 p zs = -1 := by
  have : zs.findIdx? p = none := by
    rw [List.findIdx?_eq_none_iff]
    intro x hx
    obtain ⟨j, hj, rfl⟩ := List.mem_iff_getElem.1 hx
    exact h j hj
  rw [idx9, this]
theorem idx9_some {α : Type} {p : α → Bool} {zs : List α} {k : Nat} (hk : k < zs.length) (h : ∀ j (hj : j < zs.length), j < k → p zs[j] = false) (hp : p zs[k] = true) : idx9 p zs = k := by
  have : zs.findIdx? p = some k := by
    rw [List.findIdx?_eq_some_iff_getElem]
    exact ⟨hk, hp, fun j hj => by rw [h j (by omega) hj]; simp⟩
  rw [idx9, this]
theorem idx9_nonneg {α : Type} (p : α → Bool) (zs : List α) : decide (0 ≤ idx9 p zs) = zs.any p := by
  unfold idx9
  cases e : zs.findIdx? p with
  | none =>
    rw [List.findIdx?_eq_none_iff] at e
    have : zs.any p = false := by rw [List.any_eq_false]; intro x hx; rw [e x hx]; simp
    rw [this]; rfl
  | some i =>
    rw [List.findIdx?_eq_some_iff_getElem] at e
    obtain ⟨h, h1, _⟩ := e
    have : zs.any p = true := List.any_eq_true.2 ⟨_, List.getElem_mem h, h1⟩
    rw [this]; simp
/-- The function value F tells p of the members of zs, and what lies below stays. -/
def Tells9 {α : Type} (enc : α → Value) (F : Nat) (fr : Array Value) (W : World) (zs : List α) (p : α → Bool) : Prop := ∀ x ∈ zs, ∀ W', Below W.heap.size W W' → Calls Try.prog F (#[enc x] ++ fr) W' fun e w' => e = .returned (.bool (p x)) ∧ Below W'.heap.size W' w'
def encI (x : Int × Int) : Value := .agg #[.int .i64 x.1, .int .i64 x.2]
set_option maxRecDepth 100000 in
set_option maxHeartbeats 1000000 in
theorem index9I_any (zs : List (Int × Int)) (a : Option Addr) (n c : Nat) (hn : zs.length = n) (bn : n ≤ 9000000000000) (W : World) (F : Nat) (fr : Array Value) (eF : ∀ args w, (callFunc F args).run Try.prog w = .ok (.enter F args) w) (p : Int × Int → Bool) (hz : IsAt W.cell? a zs) (hF : Tells9 encI F fr W zs p) :
    Calls Try.prog 47 #[.slice a n c, .func (.func F) #[] fr] W fun e w' => e = .returned (.int .i64 (idx9 p zs)) ∧ Below W.heap.size W w' := by
  have HN := hid9 hn
  have HZ := hid9 hz
  have HF := hid9 hF
  clear hn hz hF
  go_enter Try.func47, Try.ntmps47
  go_wp2_with fail
  go_loopw [8] (fun iv wr => ∃ k : Nat, iv = .int .i64 k ∧ k ≤ n ∧ Hid (Below W.heap.size W wr) ∧ Hid (∀ j (hj : j < zs.length), j < k → p zs[j] = false)) (fun iv _ => n - (intOf iv).toNat)
  case atStart => exact ⟨0, rfl, Nat.zero_le _, hid9 (Below.refl _ _), hid9 fun j _ h => by omega⟩
  case round =>
    obtain ⟨k, rfl, hk, HW, HP⟩ := hrel
    by_cases hlt : k < n
    · have hkl : k < zs.length := by rw [HN.out]; exact hlt
      obtain ⟨zb, zo, e1, z1, z2⟩ : ∃ zb zo, a = some ⟨zb, zo, none⟩ ∧ wr.cell? ⟨zb, zo + k * 2, none⟩ = some (.int .i64 zs[k].1) ∧ wr.cell? ⟨zb, zo + k * 2 + 1, none⟩ = some (.int .i64 zs[k].2) := by
        rcases HZ.out with h | ⟨b, o, e, h⟩
        · rw [h] at hkl; cases hkl
        · exact ⟨b, o, e, below_keep HW.out _ _ (h k hkl).1, below_keep HW.out _ _ (h k hkl).2⟩
      subst e1
      have HC : Hid (Calls Try.prog F (#[.agg #[.int .i64 zs[k].1, .int .i64 zs[k].2]] ++ fr) wr fun e w' => e = .returned (.bool (p zs[k])) ∧ Hid (Below W.heap.size W w')) := hid9 ((HF.out zs[k] (List.getElem_mem hkl) wr HW.out).mono fun e w' ⟨h1, h2⟩ => ⟨h1, hid9 (HW.out.trans (h2.mono HW.out.size))⟩)
      cases hp : p zs[k] with
      | true =>
        have HE := hid9 (idx9_some hkl HP.out hp)
        rw [hp] at HC
        generalize zs[k].1 = x0 at *
        generalize zs[k].2 = x9 at *
        clear HP HF HZ hp HW
        go_wp2_with (first | (go_at_fn F; refine HC.out.mono ?_; clear HC; rintro e w4 ⟨rfl, HW⟩) | fail)
        go_ret
        exact ⟨by rw [HE.out]; rfl, HW.out⟩
      | false =>
        have HP2 : Hid (∀ j (hj : j < zs.length), j < k + 1 → p zs[j] = false) := hid9 fun j hj hjk => by
          by_cases e : j = k
          · subst e; exact hp
          · exact HP.out j hj (by omega)
        rw [hp] at HC
        generalize zs[k].1 = x0 at *
        generalize zs[k].2 = x9 at *
        clear HP HF HZ hp HW
        go_wp2_with (first | (go_at_fn F; refine HC.out.mono ?_; clear HC; rintro e w4 ⟨rfl, HW⟩) | fail)
        exact ⟨⟨k + 1, by go_num, by omega, HW, HP2⟩, by simp [intOf]; omega⟩
    · obtain rfl : k = n := by omega
      have HE : Hid (idx9 p zs = -1) := hid9 (idx9_none fun j hj => HP.out j hj (by rw [← HN.out]; exact hj))
      clear HP HF HZ
      go_wp2_with fail
      go_ret
      exact ⟨by rw [HE.out]; rfl, HW.out⟩
set_option maxRecDepth 100000 in
set_option maxHeartbeats 1000000 in
theorem contains9I_any (zs : List (Int × Int)) (a : Option Addr) (n c : Nat) (hn : zs.length = n) (bn : n ≤ 9000000000000) (W : World) (F : Nat) (fr : Array Value) (eF : ∀ args w, (callFunc F args).run Try.prog w = .ok (.enter F args) w) (p : Int × Int → Bool) (hz : IsAt W.cell? a zs) (hF : Tells9 encI F fr W zs p) :
    Calls Try.prog 33 #[.slice a n c, .func (.func F) #[] fr] W fun e w' => e = .returned (.bool (zs.any p)) ∧ Below W.heap.size W w' := by
  have HI := hid9 (index9I_any zs a n c hn bn W F fr eF p hz hF)
  have e6 : ∀ args w, (callFunc 47 args).run Try.prog w = .ok (.enter 47 args) w := enters_of Try.func47 (by kernel_rfl) rfl
  rw [← idx9_nonneg]
  generalize idx9 p zs = i at HI ⊢
  clear hn hz hF
  go_enter Try.func33, Try.ntmps33
  go_wp2_with (first | (go_at_fn 47; refine HI.out.mono ?_; clear HI; rintro e w' ⟨rfl, HW⟩) | fail)
  go_ret
  exact ⟨rfl, HW⟩
def encN (x : Int) : Value := .int .i64 x
set_option maxRecDepth 100000 in
set_option maxHeartbeats 1000000 in
theorem index9N_any (zs : List Int) (a : Option Addr) (n c : Nat) (hn : zs.length = n) (bn : n ≤ 18000000000000) (W : World) (F : Nat) (fr : Array Value) (eF : ∀ args w, (callFunc F args).run Try.prog w = .ok (.enter F args) w) (p : Int → Bool) (hz : NsAt W.cell? a zs) (hF : Tells9 encN F fr W zs p) :
    Calls Try.prog 48 #[.slice a n c, .func (.func F) #[] fr] W fun e w' => e = .returned (.int .i64 (idx9 p zs)) ∧ Below W.heap.size W w' := by
  have HN := hid9 hn
  have HZ := hid9 hz
  have HF := hid9 hF
  clear hn hz hF
  go_enter Try.func48, Try.ntmps48
  go_wp2_with fail
  go_loopw [8] (fun iv wr => ∃ k : Nat, iv = .int .i64 k ∧ k ≤ n ∧ Hid (Below W.heap.size W wr) ∧ Hid (∀ j (hj : j < zs.length), j < k → p zs[j] = false)) (fun iv _ => n - (intOf iv).toNat)
  case atStart => exact ⟨0, rfl, Nat.zero_le _, hid9 (Below.refl _ _), hid9 fun j _ h => by omega⟩
  case round =>
    obtain ⟨k, rfl, hk, HW, HP⟩ := hrel
    by_cases hlt : k < n
    · have hkl : k < zs.length := by rw [HN.out]; exact hlt
      obtain ⟨zb, zo, e1, z1⟩ : ∃ zb zo, a = some ⟨zb, zo, none⟩ ∧ wr.cell? ⟨zb, zo + k, none⟩ = some (.int .i64 zs[k]) := by
        rcases HZ.out with h | ⟨b, o, e, h⟩
        · rw [h] at hkl; cases hkl
        · exact ⟨b, o, e, below_keep HW.out _ _ (h k hkl)⟩
      subst e1
      have HC : Hid (Calls Try.prog F (#[.int .i64 zs[k]] ++ fr) wr fun e w' => e = .returned (.bool (p zs[k])) ∧ Hid (Below W.heap.size W w')) := hid9 ((HF.out zs[k] (List.getElem_mem hkl) wr HW.out).mono fun e w' ⟨h1, h2⟩ => ⟨h1, hid9 (HW.out.trans (h2.mono HW.out.size))⟩)
      cases hp : p zs[k] with
      | true =>
        have HE := hid9 (idx9_some hkl HP.out hp)
        rw [hp] at HC
        generalize zs[k] = z at *
        clear HP HF HZ hp HW
        go_wp2_with (first | (go_at_fn F; refine HC.out.mono ?_; clear HC; rintro e w4 ⟨rfl, HW⟩) | fail)
        go_ret
        exact ⟨by rw [HE.out]; rfl, HW.out⟩
      | false =>
        have HP2 : Hid (∀ j (hj : j < zs.length), j < k + 1 → p zs[j] = false) := hid9 fun j hj hjk => by
          by_cases e : j = k
          · subst e; exact hp
          · exact HP.out j hj (by omega)
        rw [hp] at HC
        generalize zs[k] = z at *
        clear HP HF HZ hp HW
        go_wp2_with (first | (go_at_fn F; refine HC.out.mono ?_; clear HC; rintro e w4 ⟨rfl, HW⟩) | fail)
        exact ⟨⟨k + 1, by go_num, by omega, HW, HP2⟩, by simp [intOf]; omega⟩
    · obtain rfl : k = n := by omega
      have HE : Hid (idx9 p zs = -1) := hid9 (idx9_none fun j hj => HP.out j hj (by rw [← HN.out]; exact hj))
      clear HP HF HZ
      go_wp2_with fail
      go_ret
      exact ⟨by rw [HE.out]; rfl, HW.out⟩
set_option maxRecDepth 100000 in
set_option maxHeartbeats 1000000 in
theorem contains9N_any (zs : List Int) (a : Option Addr) (n c : Nat) (hn : zs.length = n) (bn : n ≤ 18000000000000) (W : World) (F : Nat) (fr : Array Value) (eF : ∀ args w, (callFunc F args).run Try.prog w = .ok (.enter F args) w) (p : Int → Bool) (hz : NsAt W.cell? a zs) (hF : Tells9 encN F fr W zs p) :
    Calls Try.prog 34 #[.slice a n c, .func (.func F) #[] fr] W fun e w' => e = .returned (.bool (zs.any p)) ∧ Below W.heap.size W w' := by
  have HI := hid9 (index9N_any zs a n c hn bn W F fr eF p hz hF)
  have e6 : ∀ args w, (callFunc 48 args).run Try.prog w = .ok (.enter 48 args) w := enters_of Try.func48 (by kernel_rfl) rfl
  rw [← idx9_nonneg]
  generalize idx9 p zs = i at HI ⊢
  clear hn hz hF
  go_enter Try.func34, Try.ntmps34
  go_wp2_with (first | (go_at_fn 48; refine HI.out.mono ?_; clear HI; rintro e w' ⟨rfl, HW⟩) | fail)
  go_ret
  exact ⟨rfl, HW⟩
end Go.Proofs.Ytodagpmcmjleaaa
