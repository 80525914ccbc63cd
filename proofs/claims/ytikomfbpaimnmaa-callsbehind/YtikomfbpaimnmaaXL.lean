/- Layer 8: IndexFunc, ContainsFunc; line's closures. -/
import Derived.Test.YtikomfbpaimnmaaXK
namespace Go.Proofs.Ytikomfbpaimnmaa
open Go.RowKit
/-- The first place that p holds at, or -1. -/
def idxI (p : Int → Bool) (zs : List Int) : Int := match zs.findIdx? p with | some i => (i : Int) | none => -1
theorem idxI_none {p : Int → Bool} {zs : List Int} (h : ∀ j (hj : j < zs.length), p zs[j] = false) : idxI p zs = -1 := by
  have : zs.findIdx? p = none := by
    rw [List.findIdx?_eq_none_iff]
    intro x hx
    obtain ⟨j, hj, rfl⟩ := List.mem_iff_getElem.1 hx
    exact h j hj
  rw [idxI, this]
theorem idxI_some {p : Int → Bool} {zs : List Int} {k : Nat} (hk : k < zs.length) (h : ∀ j (hj : j < zs.length), j < k → p zs[j] = false) (hp : p zs[k] = true) : idxI p zs = k := by
  have : zs.findIdx? p = some k := by
    rw [List.findIdx?_eq_some_iff_getElem]
    exact ⟨hk, hp, fun j hj => by rw [h j (by omega) hj]; simp⟩
  rw [idxI, this]
/-- The function value F tells p of the members of zs, and changes nothing. -/
def Tells (F : Nat) (fr : Array Value) (W : World) (zs : List Int) (p : Int → Bool) : Prop := ∀ x ∈ zs, ∀ q, Calls Try.prog F (#[.int .i64 x] ++ fr) (W.drewN q) fun e w' => e = .returned (.bool (p x)) ∧ ∃ q', w' = W.drewN q'
set_option maxRecDepth 100000 in
set_option maxHeartbeats 1000000 in
theorem indexF_any (zs : List Int) (a : Option Addr) (n c : Nat) (hn : zs.length = n) (bn : n ≤ 100000) (W : World) (F : Nat) (fr : Array Value) (eF : ∀ args w, (callFunc F args).run Try.prog w = .ok (.enter F args) w) (p : Int → Bool) (hz : NsAt W.cell? a zs) (hF : Tells F fr W zs p) :
    Calls Try.prog 45 #[.slice a n c, .func (.func F) #[] fr] W fun e w' => e = .returned (.int .i64 (idxI p zs)) ∧ ∃ q, w' = W.drewN q := by
  have HN := hid7 hn
  have HZ := hid7 hz
  have HF := hid7 hF
  clear hn hz hF
  go_enter Try.func45, Try.ntmps45
  go_wp2_with fail
  go_loopw [8] (fun iv wr => ∃ k q : Nat, iv = .int .i64 k ∧ k ≤ n ∧ wr = W.drewN q ∧ Hid (∀ j (hj : j < zs.length), j < k → p zs[j] = false)) (fun iv _ => n - (intOf iv).toNat)
  case atStart => exact ⟨0, 0, rfl, Nat.zero_le _, rfl, hid7 fun j _ h => by omega⟩
  case round =>
    obtain ⟨k, q, rfl, hk, rfl, HP⟩ := hrel
    by_cases hlt : k < n
    · have hkl : k < zs.length := by rw [HN.out]; exact hlt
      obtain ⟨zb, zo, e1, z1⟩ : ∃ zb zo, a = some ⟨zb, zo, none⟩ ∧ (W.drewN q).cell? ⟨zb, zo + k, none⟩ = some (.int .i64 zs[k]) := by
        rcases HZ.out with h | ⟨b, o, e, h⟩
        · rw [h] at hkl; cases hkl
        · exact ⟨b, o, e, h k hkl⟩
      subst e1
      have HC := hid7 (HF.out zs[k] (List.getElem_mem hkl) q)
      cases hp : p zs[k] with
      | true =>
        have HE := hid7 (idxI_some hkl HP.out hp)
        rw [hp] at HC
        generalize zs[k] = z at *
        clear HP HF HZ hp
        go_wp2_with (first | (go_at_fn F; refine HC.out.mono ?_; clear HC; rintro e w4 ⟨rfl, q4, w4e⟩; rw [w4e]; clear w4e) | fail)
        go_ret
        exact ⟨by rw [HE.out]; rfl, q4, rfl⟩
      | false =>
        have HP2 : Hid (∀ j (hj : j < zs.length), j < k + 1 → p zs[j] = false) := hid7 fun j hj hjk => by
          by_cases e : j = k
          · subst e; exact hp
          · exact HP.out j hj (by omega)
        rw [hp] at HC
        generalize zs[k] = z at *
        clear HP HF HZ hp
        go_wp2_with (first | (go_at_fn F; refine HC.out.mono ?_; clear HC; rintro e w4 ⟨rfl, q4, w4e⟩; rw [w4e]; clear w4e) | fail)
        exact ⟨⟨k + 1, q4, by go_num, by omega, rfl, HP2⟩, by simp [intOf]; omega⟩
    · obtain rfl : k = n := by omega
      have HE : Hid (idxI p zs = -1) := hid7 (idxI_none fun j hj => HP.out j hj (by rw [← HN.out]; exact hj))
      clear HP HF HZ
      go_wp2_with fail
      go_ret
      exact ⟨by rw [HE.out]; rfl, q, rfl⟩
theorem idxI_nonneg (p : Int → Bool) (zs : List Int) : decide (0 ≤ idxI p zs) = zs.any p := by
  unfold idxI
  cases e : zs.findIdx? p with
  | none =>
    rw [List.findIdx?_eq_none_iff] at e
    have : zs.any p = false := by rw [List.any_eq_false]; intro x hx; rw [e x hx]; simp
    rw [this]; rfl
  | some i =>
    rw [List.findIdx?_eq_some_iff_getElem] at e
    obtain ⟨h, h1, _⟩ := e
    have : zs.any p = true := List.any_eq_true.2 ⟨_, List.getElem_mem h, h1⟩
    rw [this]; simp
set_option maxRecDepth 100000 in
set_option maxHeartbeats 1000000 in
theorem containsF_any (zs : List Int) (a : Option Addr) (n c : Nat) (hn : zs.length = n) (bn : n ≤ 100000) (W : World) (F : Nat) (fr : Array Value) (eF : ∀ args w, (callFunc F args).run Try.prog w = .ok (.enter F args) w) (p : Int → Bool) (hz : NsAt W.cell? a zs) (hF : Tells F fr W zs p) :
    Calls Try.prog 44 #[.slice a n c, .func (.func F) #[] fr] W fun e w' => e = .returned (.bool (zs.any p)) ∧ ∃ q, w' = W.drewN q := by
  have HI := hid7 (indexF_any zs a n c hn bn W F fr eF p hz hF)
  have e6 : ∀ args w, (callFunc 45 args).run Try.prog w = .ok (.enter 45 args) w := enters_of Try.func45 (by kernel_rfl) rfl
  rw [← idxI_nonneg]
  generalize idxI p zs = i at HI ⊢
  clear hn hz hF
  go_enter Try.func44, Try.ntmps44
  go_wp2_with (first | (go_at_fn 45; refine HI.out.mono ?_; clear HI; rintro e w' ⟨rfl, q, rfl⟩) | fail)
  go_ret
  exact ⟨rfl, q, rfl⟩
set_option maxRecDepth 100000 in
set_option maxHeartbeats 1000000 in
theorem waits_any (pt mb n S : Nat) (m : Nat → Option Nat) (f : Nat) (hf : f ≤ 100000) (w : World) (ct : w.cell? ⟨pt, 0, none⟩ = some (.map (some mb))) (hm : MapN w mb n S m) :
    Calls Try.prog 42 #[.int .i64 (f : Nat), .pointer (some ⟨pt, 0, none⟩)] w fun e w' => e = .returned (.bool (((m f).getD 0 : Nat) == 0)) ∧ ∃ q, w' = w.drewN q := by
  have hl := hm.at f hf
  generalize (m f).getD 0 = v at hl ⊢
  go_enter Try.func42, Try.ntmps42
  go_wp2_with fail
  go_ret
  refine ⟨?_, 0, rfl⟩
  show Ending.returned (.bool (((v : Nat) : Int) == 0)) = _
  congr 2
  rw [Bool.eq_iff_iff]
  simp
set_option maxRecDepth 100000 in
set_option maxHeartbeats 1000000 in
theorem ready_any (B pg pt pw mb n gc S : Nat) (ga : Option Addr) (G : List (List Nat)) (hG : G.length = n) (hI : Inn n (gOf G)) (hr : ∀ l ∈ G, l.length ≤ 1000) (hn : n ≤ 1000) (m : Nat → Option Nat) (f : Nat) (hf : f < n) (w : World) (cg : w.cell? ⟨pg, 0, none⟩ = some (.slice ga n gc)) (ct : w.cell? ⟨pt, 0, none⟩ = some (.map (some mb)))
    (cw : w.cell? ⟨pw, 0, none⟩ = some (.func (.func 42) #[] #[.pointer (some ⟨pt, 0, none⟩)])) (hg : RsAt (lowC B w) ga (rowsI G)) (hm : MapN w mb n S m) :
    Calls Try.prog 43 #[.int .i64 (f : Nat), .pointer (some ⟨pg, 0, none⟩), .pointer (some ⟨pw, 0, none⟩)] w fun e w' => e = .returned (.bool ((gOf G f).all fun c => !((m c).getD 0 == 0))) ∧ ∃ q, w' = w.drewN q := by
  obtain ⟨gb, go, aj, cj, ega, hgb, hrow, hns⟩ := row_at hg (by rw [hG]; exact hf)
  have hl : (gOf G f).length ≤ 1000 := by
    unfold gOf
    rw [List.getD_eq_getElem?_getD, List.getElem?_eq_getElem (by rw [hG]; exact hf)]
    exact hr _ (List.getElem_mem _)
  have eW : ∀ args w, (callFunc 42 args).run Try.prog w = .ok (.enter 42 args) w := enters_of Try.func42 (by kernel_rfl) rfl
  have hdd : ∀ k', w.drew.drewN k' = w.drewN (1 + k') := fun k' => by rw [← World.drewN_drewN]; rfl
  have HC : Hid (Calls Try.prog 44 #[.slice aj (gOf G f).length cj, .func (.func 42) #[] #[.pointer (some ⟨pt, 0, none⟩)]] w.drew fun e w' => e = .returned (.bool ((rowI (gOf G f)).any fun x => ((m x.toNat).getD 0 : Nat) == 0)) ∧ ∃ q, w' = w.drewN q) := hid7 ((containsF_any (rowI (gOf G f)) aj (gOf G f).length cj (by simp [rowI]) (by omega) w.drew 42 #[.pointer (some ⟨pt, 0, none⟩)] eW (fun x => ((m x.toNat).getD 0 : Nat) == 0) (hns.keep fun x v hx => (lowC_of hx).2) (fun x hx q => by
    obtain ⟨c, hc, rfl⟩ := List.mem_map.1 hx
    have := waits_any pt mb n S m c (by have := hI f hf c hc; omega) (w.drew.drewN q) ct hm
    refine this.mono fun e w' ⟨h1, q', h2⟩ => ⟨h1, q + q', by rw [h2, World.drewN_drewN]⟩)).mono fun e w' ⟨h1, q, h2⟩ => ⟨h1, _, h2.trans (hdd q)⟩)
  have he : (rowI (gOf G f)).any (fun x => ((m x.toNat).getD 0 : Nat) == 0) = !(gOf G f).all fun c => !((m c).getD 0 == 0) := by
    rw [rowI, List.any_map, List.not_all_eq_any_not]
    congr 1
    funext c
    simp
  rw [he] at HC
  generalize (gOf G f).all (fun c => !((m c).getD 0 == 0)) = r at HC ⊢
  generalize (gOf G f).length = gl at HC hrow
  subst ega
  clear hns hg hm hr hI hG he ct hdd
  go_enter Try.func43, Try.ntmps43
  go_wp2_with fail
  go_region_with (first | (go_at_call 44; refine HC.out.mono ?_; clear HC; rintro e w' ⟨rfl, q, w4e⟩; rw [w4e]; clear w4e) | fail)
  all_goals
    go_wp2
    go_ret
    exact ⟨by cases r <;> rfl, q, rfl⟩
end Go.Proofs.Ytikomfbpaimnmaa
