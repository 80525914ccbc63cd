/- Match of a row that Own made; the law ShapeWays. -/
import Derived.Test.YtnlcokcpcfbdaaaSW
import Derived.Test.YtnlcokcpcfbdaaaLNexts
namespace Go.Proofs.Ytnlcokcpcfbdaaa
open Go.RowKit
theorem match_is (cs : List (Int × Int)) (a : Option Addr) (c n : Nat) (hn : cs.length = n) (_hc : n ≤ c) (bn : n ≤ 1000000000) (w : World) (h : IsAt w.cell? a cs) : Calls Try.prog 11 #[.slice a n c] w (MatchEnd cs w) := by
  subst hn
  rcases h with rfl | ⟨b, off, rfl, hh⟩
  · exact match_any [] a c 0 0 (.inl rfl) bn w (fun j h => by cases h)
  · exact match_any cs _ c b off (.inr rfl) bn w hh
theorem ins_row {cs : List (Int × Int)} {a : Option Addr} {c n : Nat} {B : Nat} {W W' : World} (h : W.ownsRow B 36 2 (.slice a n c) n (cellsI cs)) (hb : Below W.heap.size W W') : IsAt W'.cell? a cs := by
  obtain ⟨_, a2, c2, e2, _, hI⟩ := is_of_row h (C := W'.cell?) (fun x v _ hv => (hb.cell (World.block_lt_of_cell? W x hv)).trans hv)
  cases e2
  exact hI
theorem way_place (k : Int) (n : Nat) (h1 : 1 ≤ n) (h2 : n ≤ 1048576) : ∃ j : Nat, (wrap64 (k.tmod (n : Int) + (n : Int))).tmod (n : Int) = j ∧ j < n := by
  have ha : (k.tmod (n : Int)).natAbs = k.natAbs % n := by rw [Int.natAbs_tmod]; simp
  have hb : k.natAbs % n < n := Nat.mod_lt _ (by omega)
  generalize k.tmod (n : Int) = x at *
  have e : wrap64 (x + n) = x + n := by unfold wrap64; omega
  rw [e, Int.tmod_eq_emod_of_nonneg (by omega)]
  have c1 := Int.emod_nonneg (x + n) (by omega : (n : Int) ≠ 0)
  have c2 := Int.emod_lt_of_pos (x + n) (by omega : 0 < (n : Int))
  exact ⟨((x + n) % n).toNat, by omega, by omega⟩
/-- Where one comes to from a place of good shape. -/
theorem next_way {cs : List (Int × Int)} (hg : goodS cs = true) {k : Nat} (hk : k < cs.length) (yes : Bool) :
    if opA cs k = 50 ∧ yes = true then (∃ j : Nat, (matchS cs).getD k 0 = j ∧ nextS cs (matchS cs) k yes = j + 1) ∧ nextS cs (matchS cs) k yes ≤ k else (k : Int) < nextS cs (matchS cs) k yes ∧ nextS cs (matchS cs) k yes ≤ cs.length := by
  obtain ⟨f1, f2⟩ := match_facts hg hk
  have hl := matchS_len cs
  have e : nextS cs (matchS cs) k yes = if asksS (opA cs k) yes = true then (if 0 ≤ (matchS cs).getD k 0 ∧ (matchS cs).getD k 0 < cs.length then (matchS cs).getD k 0 + 1 else -1) else (k : Int) + 1 := by
    unfold nextS
    rw [if_pos (by omega), Int.toNat_natCast]
    rfl
  rw [e]
  generalize opA cs k = o at *
  generalize (matchS cs).getD k 0 = m at *
  by_cases h50 : o = 50
  · have f1 := f1 h50
    subst h50
    cases yes with
    | true =>
      rw [if_pos ⟨rfl, rfl⟩, if_pos (by decide), if_pos (by omega)]
      exact ⟨⟨m.toNat, by omega, by omega⟩, by omega⟩
    | false =>
      rw [if_neg (by simp), if_neg (by decide)]
      omega
  · rw [if_neg (fun h => h50 h.1)]
    by_cases h2 : o = 48 ∨ o = 49 ∨ o = 51 ∨ o = 52
    · have f2 := f2 h2
      split
      · rw [if_pos (by omega)]; omega
      · omega
    · have : asksS o yes = false := by
        unfold asksS
        rw [if_neg (by omega), if_neg (by omega), if_neg (by omega)]
      rw [this, if_neg (by decide)]
      omega
set_option maxRecDepth 100000 in
set_option maxHeartbeats 1000000 in
theorem ways_any (cs : List (Int × Int)) (ca : Option Addr) (cc n : Nat) (hn : cs.length = n) (bn : n ≤ 8796093022208) (x : Int) (yes : Bool) (w : World) (hc : IsAt w.cell? ca cs) :
    Calls Try.prog 8 #[.slice ca n cc, .int .i64 x, .bool yes] w fun e w' => e = .returned (.bool true) ∧ Below w.heap.size w w' := by
  by_cases h0 : n = 0
  · clear hc hn bn
    subst h0
    go_enter Try.func8, Try.ntmps8
    go_wp2_with (first | (go_at_call 9; refine (knows6_any _).mono ?_; rintro e w8 ⟨rfl, b8⟩) | fail)
    go_ret
    exact ⟨rfl, b8⟩
  by_cases h2 : 200 < n
  · clear hc hn
    have e1 : ¬ ((n : Int) = 0) := by omega
    have e2 : (200 : Int) < n := by omega
    clear h0 h2
    go_enter Try.func8, Try.ntmps8
    go_wp2_with (first | (go_at_call 9; refine (knows6_any _).mono ?_; rintro e w8 ⟨rfl, b8⟩) | fail)
    go_ret
    exact ⟨rfl, b8⟩
  have e1 : ¬ ((n : Int) = 0) := by omega
  have e2 : ¬ (200 : Int) < n := by omega
  have hO := own6_any cs ca cc n hn bn w hc
  have HN := hid6 hn
  have HC : Hid (∀ W, Below w.heap.size w W → IsAt W.cell? ca cs) := hid6 fun W hb => hc.keep fun a v h => (hb.cell (World.block_lt_of_cell? w a h)).trans h
  cases hg : goodS cs with
  | false =>
    have HM : Hid (∀ w1 a1 c1, n ≤ c1 → w1.ownsRow w.heap.size 36 2 (.slice a1 n c1) n (cellsI cs) → Calls Try.prog 11 #[.slice a1 n c1] w1 fun e w' => e = .returned (.tuple #[.slice none 0 0, .int .i64 31]) ∧ Below w1.heap.size w1 w') := hid6 (by
      intro w1 a1 c1 hc1 hr
      refine (match_is cs a1 c1 n hn hc1 (by omega) w1 (ins_row hr (Below.refl _ _))).mono ?_
      rintro e w' ⟨h1, h2⟩
      rw [if_neg (by rw [hg]; decide)] at h1
      exact ⟨h1, h2⟩)
    clear hc hn hg h0 h2
    go_enter Try.func8, Try.ntmps8
    go_wp2_with (first
      | (go_at_call 10; refine hO.mono ?_; clear hO; rintro e w1 ⟨a1, c1, rfl, hc1, hr1, b1⟩; rw [HN.out] at hc1 hr1 ⊢; have HM1 := hid6 (HM.out w1 a1 c1 hc1 hr1); clear hr1)
      | (go_at_call 11; refine HM1.out.mono ?_; clear HM1; rintro e w2 ⟨rfl, b2⟩)
      | (go_at_call 16; refine (num6_any _ _).mono ?_; rintro e w9 ⟨rfl, rfl⟩)
      | (go_at_call 9; refine (knows6_any _).mono ?_; rintro e w8 ⟨rfl, b8⟩)
      | fail)
    go_ret
    exact ⟨rfl, b1.trans ((b2.mono b1.size).trans (b8.mono (Nat.le_trans b1.size b2.size)))⟩
  | true =>
    obtain ⟨k, hk, hkn⟩ := way_place x n (by omega) (by omega)
    have hway := next_way hg (hn.symm ▸ hkn) yes
    have HM : Hid (∀ w1 a1 c1, n ≤ c1 → w1.ownsRow w.heap.size 36 2 (.slice a1 n c1) n (cellsI cs) → Calls Try.prog 11 #[.slice a1 n c1] w1 fun e w' => ∃ g, e = .returned (.tuple #[.slice (some ⟨g, 0, none⟩) n n, .int .i64 0]) ∧ NumBlk g (matchS cs) w' ∧ Below w1.heap.size w1 w') := hid6 (by
      intro w1 a1 c1 hc1 hr
      refine (match_is cs a1 c1 n hn hc1 (by omega) w1 (ins_row hr (Below.refl _ _))).mono ?_
      rintro e w' ⟨h1, h2⟩
      rw [if_pos hg, hn] at h1
      obtain ⟨g, _, he, hN⟩ := h1
      exact ⟨g, he, hN, h2⟩)
    have HX : Hid (∀ W B g a1 c1, NumBlk g (matchS cs) W → W.ownsRow B 36 2 (.slice a1 n c1) n (cellsI cs) → Calls Try.prog 19 #[.slice a1 n c1, .slice (some ⟨g, 0, none⟩) n n, .int .i64 k, .bool yes] W fun e w' => e = .returned (.int .i64 (nextS cs (matchS cs) k yes)) ∧ w' = W) := hid6 (by
      intro W B g a1 c1 hN hr
      exact next6_any cs (matchS cs) a1 (some ⟨g, 0, none⟩) c1 n n n hn ((matchS_len cs).trans hn) k yes W (ins_row hr (Below.refl _ _)) hN.ns (by omega))
    obtain ⟨cb, co, rfl⟩ := is_some hc (by omega)
    have HK : Hid (∀ W, Below w.heap.size w W → W.cell? ⟨cb, co + k * 2, none⟩ = some (.int .i64 (opA cs k))) := hid6 fun W hb => is_at (HC.out W hb) k (by omega)
    have HJ : Hid (∀ W g, NumBlk g (matchS cs) W → W.cell? ⟨g, k, none⟩ = some (.int .i64 ((matchS cs).getD k 0))) := hid6 fun W g h => by
      have := (h.at k (by rw [matchS_len]; omega)).1
      rwa [List.getD_eq_getElem?_getD, List.getElem?_eq_getElem (by rw [matchS_len]; omega)]
    generalize nextS cs (matchS cs) k yes = y at hway HX
    generalize opA cs k = o at hway HK
    generalize (matchS cs).getD k 0 = mk at hway HJ
    rw [hn] at hway
    have HO2 : Hid (∀ W, Below w.heap.size w W → Calls Try.prog 10 #[.slice (some ⟨cb, co, none⟩) n cc] W (InsEnd6 cs W)) := hid6 fun W hb => own6_any cs _ cc n hn bn W (HC.out W hb)
    clear hc hn hg h0 h2
    have hcase : (o = 50 ∧ yes = true) ∨ (o = 50 ∧ yes = false) ∨ ¬ o = 50 := by cases yes <;> simp <;> omega
    rcases hcase with ⟨rfl, rfl⟩ | ⟨rfl, rfl⟩ | ho
    all_goals first | rw [if_pos ⟨rfl, rfl⟩] at hway | rw [if_neg (fun h => ho h.1)] at hway | rw [if_neg (by simp)] at hway
    all_goals obtain ⟨y1, y2⟩ := hway
    all_goals try (obtain ⟨j, rfl, rfl⟩ := y1)
    all_goals
      go_enter Try.func8, Try.ntmps8
      go_wp2_with (first
        | (go_at_call 10; first
          | (refine hO.mono ?_; clear hO; rintro e w1 ⟨a1, c1, rfl, hc1, hr1, b1⟩; rw [HN.out] at hc1 hr1 ⊢; have HM1 := hid6 (HM.out w1 a1 c1 hc1 hr1); clear hr1)
          | (refine (HO2.out w2 (b1.trans (b2.mono b1.size))).mono ?_; clear HO2; rintro e w3 ⟨a3, c3, rfl, hc3, hr3, b3⟩; rw [HN.out] at hc3 hr3 ⊢; have HX1 := hid6 (HX.out w3 _ g a3 c3 (hN.out.keep b3) hr3); have b4 := b1.trans ((b2.mono b1.size).trans (b3.mono (Nat.le_trans b1.size b2.size))); have k1 := HK.out w3 b4; have k2 := HJ.out w3 g (hN.out.keep b3)))
        | (go_at_call 11; refine HM1.out.mono ?_; clear HM1; rintro e w2 ⟨g, rfl, hN, b2⟩; have hN := hid6 hN)
        | (go_at_call 16; refine (num6_any _ _).mono ?_; rintro e w9 ⟨rfl, w9e⟩; rw [w9e]; clear w9e)
        | (go_at_call 19; refine HX1.out.mono ?_; clear HX1; rintro e w9 ⟨rfl, w9e⟩; rw [w9e]; clear w9e)
        | (go_at_call 9; refine (knows6_any _).mono ?_; rintro e w8 ⟨rfl, b8⟩)
        | fail)
      go_ret
      exact ⟨rfl, b4.trans (b8.mono b4.size)⟩
end Go.Proofs.Ytnlcokcpcfbdaaa
