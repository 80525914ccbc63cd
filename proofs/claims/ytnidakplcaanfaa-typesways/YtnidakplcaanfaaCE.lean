/- slices.Equal, slices.EqualFunc, and code.Same of any two scripts. types.Alike, and a walk's turn. -/
import Derived.Test.YtnidakplcaanfaaCS
import Derived.Test.YtnidakplcaanfaaTF
namespace Go.Proofs.Ytnidakplcaanfaa
open Go.RowKit
set_option maxRecDepth 100000 in
set_option maxHeartbeats 1000000 in
theorem eqN_any (a b : Option Addr) (c d n m : Nat) (ns ms : List Int) (hn : ns.length = n) (hm : ms.length = m) (w : World) (ha : NsAt w.cell? a ns) (hb : NsAt w.cell? b ms) (hl : n ≤ 17592186044416) (hl' : m ≤ 17592186044416) : Calls Try.prog 32 #[.slice a n c, .slice b m d] w fun e w' => e = .returned (.bool (decide (ns = ms))) ∧ ∃ k, w' = w.drewN k := by
  by_cases hnm : n = m
  · subst hnm
    go_enter Try.func32, Try.ntmps32
    go_wp2
    go_loopw [13] (fun i wr => ∃ k m : Nat, k ≤ n ∧ i = .int .i64 k ∧ (∀ j (h1 : j < ns.length) (h2 : j < ms.length), j < k → ns[j] = ms[j]) ∧ wr = w.drewN m) (fun i _ => n - (intOf i).toNat)
    case atStart => exact ⟨0, 0, Nat.zero_le _, rfl, by omega, rfl⟩
    case round =>
      obtain ⟨k, m, hk, rfl, hr, rfl⟩ := hrel
      by_cases hlt : k < n
      · rcases ha with h0 | ⟨b0, off0, rfl, hc0⟩
        · subst h0; simp at hn; omega
        rcases hb with h0 | ⟨b1, off1, rfl, hc1⟩
        · subst h0; simp at hm; omega
        have c0 := hc0 k (by omega)
        have d0 := hc1 k (by omega)
        have HN : Hid (ns[k] ≠ ms[k] → decide (ns = ms) = false) := hid (list_ne (by omega) (by omega))
        have HT : Hid (ns[k] = ms[k] → ∀ j (h1 : j < ns.length) (h2 : j < ms.length), j < k + 1 → ns[j] = ms[j]) := hid fun h j h1 h2 hjk => by
          rcases Nat.lt_or_ge j k with h3 | h3
          · exact hr j h1 h2 h3
          · obtain rfl : j = k := by omega
            exact h
        generalize ns[k] = x at c0 HN HT
        generalize ms[k] = y at d0 HN HT
        clear hc0 hc1
        by_cases h1 : x = y
        · subst h1
          go_wp2
          go_quiet (fail)
          go_wp2
          refine ⟨⟨k + 1, _, by omega, by go_num, HT.out (by simp), rfl⟩, by simp [intOf]; omega⟩
        · have q : (x != y) = true := by simp [h1]
          have q' : (x == y) = false := by simp [h1]
          go_wp2
          go_quiet (fail)
          go_wp2
          go_ret
          exact ⟨by rw [HN.out h1]; rfl, m + nq, World.drewN_drewN _ _ _⟩
      · have HE : Hid (decide (ns = ms) = true) := hid (decide_eq_true (List.ext_getElem (by omega) fun j h1 h2 => hr j h1 h2 (by omega)))
        go_wp2
        go_ret
        exact ⟨by rw [HE.out]; rfl, m, rfl⟩
  · have hne : ((n : Int) != (m : Int)) = true := by simp; omega
    have hd : decide (ns = ms) = false := decide_eq_false fun h => hnm (by rw [← hn, ← hm, h])
    go_enter Try.func32, Try.ntmps32
    go_wp2
    go_ret
    exact ⟨by rw [hd]; rfl, 0, rfl⟩
end Go.Proofs.Ytnidakplcaanfaa
namespace Go.Proofs.Ytnidakplcaanfaa
open Go.RowKit Go.Shelf
def alikeS (ns ms : List Int) : Int := if ns.length = ms.length then (if ns = ms then 0 else 33) else 32
set_option maxRecDepth 100000 in
set_option maxHeartbeats 1000000 in
theorem alike_any (a b : Option Addr) (c d n m : Nat) (ns ms : List Int) (hn : ns.length = n) (hm : ms.length = m) (bn : n ≤ 1000000) (bm : m ≤ 1000000) (w : World) (ha : NsAt w.cell? a ns) (hb : NsAt w.cell? b ms) :
    Calls Try.prog 18 #[.slice a n c, .slice b m d] w fun e w' => e = .returned (.int .i64 (alikeS ns ms)) ∧ ∃ k, w' = w.drewN k := by
  have hE := eqN_any a b c d n m ns ms hn hm w ha hb (by omega) (by omega)
  have HE := hid7 hE
  clear hE ha hb
  by_cases h1 : n = m
  · subst h1
    by_cases h2 : ns = ms
    · have HA : Hid (alikeS ns ms = 0) := hid7 (by rw [alikeS, if_pos (by omega), if_pos h2])
      have HE2 : Hid (Calls Try.prog 32 #[.slice a n c, .slice b n d] w fun e w' => e = .returned (.bool true) ∧ ∃ k, w' = w.drewN k) := hid7 (by have := HE.out; rw [decide_eq_true h2] at this; exact this)
      clear HE hn hm h2
      go_enter Try.func18, Try.ntmps18
      go_wp2_with (first | (go_at_call 32; refine HE2.out.mono ?_; rintro e w1 ⟨rfl, k, rfl⟩) | fail)
      go_ret
      exact ⟨by rw [HA.out]; rfl, _, rfl⟩
    · have HA : Hid (alikeS ns ms = 33) := hid7 (by rw [alikeS, if_pos (by omega), if_neg h2])
      have HE2 : Hid (Calls Try.prog 32 #[.slice a n c, .slice b n d] w fun e w' => e = .returned (.bool false) ∧ ∃ k, w' = w.drewN k) := hid7 (by have := HE.out; rw [decide_eq_false h2] at this; exact this)
      clear HE hn hm h2
      go_enter Try.func18, Try.ntmps18
      go_wp2_with (first | (go_at_call 32; refine HE2.out.mono ?_; rintro e w1 ⟨rfl, k, rfl⟩) | fail)
      go_ret
      exact ⟨by rw [HA.out]; rfl, _, rfl⟩
  · have HA : Hid (alikeS ns ms = 32) := hid7 (by rw [alikeS, if_neg (by omega)])
    have hne : ((n : Int) != (m : Int)) = true := by simp; omega
    clear HE hn hm
    go_enter Try.func18, Try.ntmps18
    go_wp2
    go_ret
    exact ⟨by rw [HA.out]; rfl, 0, rfl⟩
theorem WStA.drew {wb : Nat} {fv sv : Value} {p : List Int} {L : List OB} {a : Option Addr} {c : Nat} {la : Option Addr} {lc : Nat} {bs : List Nat} {W : World} (h : WStA wb fv sv p L a c la lc bs W) (k : Nat) : WStA wb fv sv p L a c la lc bs (W.drewN k) := ⟨h.box, h.cap, h.stk, h.row, h.len, h.nod, h.gt, h.blk⟩
/-- How a walk's step ends. -/
def WEnd (wb : Nat) (fv sv : Value) (er : Int) (p : List Int) (L : List OB) (W : World) (e : Ending) (w' : World) : Prop := e = .returned (.int .i64 er) ∧ (∃ a c la lc bs, WStA wb fv sv p L a c la lc bs w') ∧ Below wb W w' ∧ Mv7 W w'
theorem Mv7.drew {W W' : World} (h : Mv7 W W') (k : Nat) : Mv7 W (W'.drewN k) := ⟨h.1, h.2⟩
set_option maxRecDepth 100000 in
set_option maxHeartbeats 1000000 in
theorem turn_open {wb : Nat} {fv sv : Value} {p : List Int} {L : List OB} {a : Option Addr} {c : Nat} {la : Option Addr} {lc : Nat} {bs : List Nat} (bm : L.length ≤ 1000) (W : World) (h : WStA wb fv sv p L a c la lc bs W) (n : Int) (hn : n = 48 ∨ n = 51) :
    Calls Try.prog 72 #[.pointer (some ⟨wb, 0, none⟩), .int .i64 n] W (WEnd wb fv sv 0 p (L ++ [⟨p, p, decide (n = 51)⟩]) W) := by
  have hB := hid7 (begin7_any bm W.drew (h.drew 1) p a c p.length rfl h.cap h.stk (decide (n = 51)))
  have c2 := (four_cell h.box).1.2.2.1
  generalize hl : p.length = q at c2 hB
  have hlt := blk_lt h.box
  clear h hl
  have HW : Hid (∀ w1, (∃ la' lc' b', WStA wb fv sv p (L ++ [⟨p, p, decide (n = 51)⟩]) a c la' lc' (bs ++ [b']) w1) → Below wb W.drew w1 → Mv7 W.drew w1 → ∀ e, e = .returned (.int .i64 0) → WEnd wb fv sv 0 p (L ++ [⟨p, p, decide (n = 51)⟩]) W e w1) := hid7 fun w1 ⟨la', lc', b', h1⟩ h2 h3 e he => ⟨he, ⟨_, _, _, _, _, h1⟩, ((Below.refl wb W).drew).trans h2, h3⟩
  rcases hn with rfl | rfl
  all_goals
    go_enter Try.func72, Try.ntmps72
    go_wp2_with fail
    go_region_with (first | (go_at_call 89; refine hB.out.mono ?_; rintro e w1 ⟨rfl, h1, h2, h3⟩; have K1 := hid7 (And.intro h1 (And.intro h2 h3)); clear h1 h2 h3) | fail)
    all_goals
      go_wp2
      go_ret
      exact HW.out _ K1.out.1 K1.out.2.1 K1.out.2.2 _ rfl
set_option maxRecDepth 100000 in
set_option maxHeartbeats 1000000 in
theorem turn_none {wb : Nat} {fv sv : Value} {p : List Int} {L : List OB} {a : Option Addr} {c : Nat} {la : Option Addr} {lc : Nat} {bs : List Nat} (W : World) (h : WStA wb fv sv p L a c la lc bs W) (n : Int) (hn : ¬ (48 ≤ n ∧ n ≤ 52)) :
    Calls Try.prog 72 #[.pointer (some ⟨wb, 0, none⟩), .int .i64 n] W (WEnd wb fv sv 0 p L W) := by
  have HW : Hid (∀ e, e = .returned (.int .i64 0) → WEnd wb fv sv 0 p L W e W) := hid7 fun e he => ⟨he, ⟨_, _, _, _, _, h⟩, Below.refl _ _, Mv7.refl _⟩
  have e1 : (n == 48) = false := by simp; omega
  have e2 : (n == 49) = false := by simp; omega
  have e3 : (n == 50) = false := by simp; omega
  have e4 : (n == 51) = false := by simp; omega
  have e5 : (n == 52) = false := by simp; omega
  clear h hn
  go_enter Try.func72, Try.ntmps72
  go_wp2
  go_ret
  exact HW.out _ rfl
set_option maxRecDepth 100000 in
set_option maxHeartbeats 1000000 in
/-- An end: the innermost block is open no more. -/
theorem turn_end {wb : Nat} {fv sv : Value} {p : List Int} {L : List OB} {x : OB} {a : Option Addr} {c : Nat} {la : Option Addr} {lc : Nat} {bs : List Nat} (bp : p.length ≤ 1000) (bx : x.la.length ≤ 1000) (bm : L.length ≤ 1000) (W : World) (h : WStA wb fv sv p (L ++ [x]) a c la lc bs W) :
    Calls Try.prog 72 #[.pointer (some ⟨wb, 0, none⟩), .int .i64 50] W (WEnd wb fv sv (alikeS p x.la) p L W) := by
  have hC := close7_any bm W.drew (h.drew 1)
  have c2 := (four_cell h.box).1.2.2.1
  have HW : Hid (∀ w1 k, WStA wb fv sv p L a c la lc bs.dropLast w1 → Below wb W.drew w1 → Mv7 W.drew w1 → ∀ e, e = .returned (.int .i64 (alikeS p x.la)) → WEnd wb fv sv (alikeS p x.la) p L W e (w1.drewN k)) := hid7 fun w1 k h1 h2 h3 e he => ⟨he, ⟨_, _, _, _, _, h1.drew k⟩, below_draws2 (((Below.refl wb W).drew).trans h2) k, Mv7.drew h3 k⟩
  have HC : Hid (Calls Try.prog 91 #[.pointer (some ⟨wb, 3, none⟩)] W.drew fun e w' => ∃ b a2 d2, e = .returned (.pointer (some ⟨b, 0, none⟩)) ∧ w'.cell? ⟨b, 1, none⟩ = some (.slice a2 x.la.length d2) ∧ w'.cell? ⟨wb, 2, none⟩ = some (.slice a p.length c) ∧ Hid (Calls Try.prog 18 #[.slice a p.length c, .slice a2 x.la.length d2] w' fun e w'' => e = .returned (.int .i64 (alikeS p x.la)) ∧ ∃ k, w'' = w'.drewN k) ∧ Hid (WStA wb fv sv p L a c la lc bs.dropLast w' ∧ Below wb W.drew w' ∧ Mv7 W.drew w')) := hid7 (hC.mono fun e w' ⟨he, h1, h2, h3, h4⟩ => by
    obtain ⟨a1, c1, a2, d2, hb, _, _, _, n2⟩ := h4
    exact ⟨_, a2, d2, he, (three_cell7 hb).1.2.1, (four_cell h1.box).1.2.2.1, hid7 (alike_any a a2 c d2 _ _ p x.la rfl rfl (by omega) (by omega) w' h1.stk.at' n2.at'), hid7 ⟨h1, h2, h3⟩⟩)
  clear hC h
  generalize alikeS p x.la = er at HW HC ⊢
  generalize p.length = pl at c2 HC bp
  generalize x.la.length = xl at HC bx
  go_enter Try.func72, Try.ntmps72
  go_wp2_with fail
  go_region_with (first | (go_at_call 91; refine HC.out.mono ?_; clear HC; rintro e w1 ⟨b1, a2, d2, rfl, cb, cw, hA, K1⟩) | (go_at_call 18; refine hA.out.mono ?_; clear hA; rintro e w2 ⟨rfl, k, rfl⟩) | fail)
  all_goals
    go_wp2
    go_ret
    exact HW.out _ _ K1.out.1 K1.out.2.1 K1.out.2.2 _ rfl
end Go.Proofs.Ytnidakplcaanfaa
