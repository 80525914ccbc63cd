/- law06.Own; the law ShapeNexts. -/
import Derived.Test.YtnlcokcpcfbdaaaSL
namespace Go.Proofs.Ytnlcokcpcfbdaaa
open Go.RowKit
theorem own_empty (w : World) (e : TypeId) (size B : Nat) (hB : B ≤ w.heap.size) : (w.alloc (.cells #[] e)).ownsRow B e size (.slice (some ⟨w.heap.size, 0, none⟩) 0 0) 0 [] := World.ownsRow_made w #[] 0 hB (by unfold maxLen; omega) (by simp)
/-- A row of its own. -/
def InsEnd6 (cs : List (Int × Int)) (w : World) (e : Ending) (w' : World) : Prop := ∃ a cc, e = .returned (.slice a cs.length cc) ∧ cs.length ≤ cc ∧ w'.ownsRow w.heap.size 36 2 (.slice a cs.length cc) cs.length (cellsI cs) ∧ Below w.heap.size w w'
theorem below_new6 {w w1 w2 : World} {v v' : Value} {B : Nat} (h1 : Below B w w1) (hs : Step w1 v w2 v') (hv : ∀ g, v.ownBlock = some g → B ≤ g) (hB : B ≤ w1.heap.size) : Below B w w2 := h1.trans (hs.below hB hv)
set_option maxRecDepth 100000 in
set_option maxHeartbeats 1000000 in
theorem own6_any (cs : List (Int × Int)) (ca : Option Addr) (cc n : Nat) (hn : cs.length = n) (bn : n ≤ 8796093022208) (w : World) (hc : IsAt w.cell? ca cs) : Calls Try.prog 10 #[.slice ca n cc] w (InsEnd6 cs w) := by
  subst hn
  have b1 := (Below.refl _ w).alloc (Nat.le_refl _) (.cells #[] 36)
  have hlies := (hc.keep (C' := (w.alloc (.cells #[] 36)).cell?) (fun a v h => (b1.cell (World.block_lt_of_cell? w a h)).trans h)).lies cc
  have HX := hid6 (own_empty w 36 2 w.heap.size (Nat.le_refl _))
  have hlen := cellsI_len cs
  obtain ⟨xs, hxs⟩ : ∃ xs, xs = cellsI cs := ⟨_, rfl⟩
  have HO : Hid (∀ u ∈ xs, u.oneCell' = true) := hid6 (by rw [hxs]; exact cellsI_one _)
  have HE : Hid (xs = cellsI cs) := hid6 hxs
  rw [← hxs] at hlies hlen
  have HB := hid6 b1
  obtain ⟨n, hn⟩ : ∃ n, n = cs.length := ⟨_, rfl⟩
  have HN := hid6 hn
  rw [← hn] at bn hlies hlen ⊢
  clear hxs hc b1 hn
  go_enter Try.func10, Try.ntmps10
  go_wp2_with (at_builtin; refine wpList_appN _ rfl _ _ 22 rfl elemN_ins w.heap.size _ 0 [] rfl HX.out _ rfl n xs hlies hlen HO.out (by unfold maxLen; omega) (by omega) (by simp) ?_; intro v' w6 hr6 hs6)
  obtain ⟨va, vc, rfl, hvc, _⟩ := row_form hr6
  go_ret
  rw [Nat.zero_add, List.nil_append, HE.out] at hr6
  rw [Nat.zero_add] at hvc
  have hn := HN.out
  subst hn
  exact ⟨va, vc, by rw [Nat.zero_add]; rfl, hvc, hr6, below_new6 HB.out hs6 (fun g e => (HX.out.lt g e).1) HB.out.size⟩
set_option maxRecDepth 100000 in
set_option maxHeartbeats 1000000 in
theorem nexts_any (cs : List (Int × Int)) (ms : List Int) (ca ma : Option Addr) (cc mc n m : Nat) (hn : cs.length = n) (hm : ms.length = m) (bn : n ≤ 8796093022208) (bm : m ≤ 17592186044416) (x : Int) (yes : Bool) (w : World) (hc : IsAt w.cell? ca cs) (hk : NsAt w.cell? ma ms) :
    Calls Try.prog 5 #[.slice ca n cc, .slice ma m mc, .int .i64 x, .bool yes] w fun e w' => e = .returned (.bool true) ∧ Below w.heap.size w w' := by
  have hO := own6_any cs ca cc n hn bn w hc
  have HC : Hid (∀ W, Below w.heap.size w W → IsAt W.cell? ca cs ∧ NsAt W.cell? ma ms) := hid6 fun W hb => ⟨hc.keep fun a v h => (hb.cell (World.block_lt_of_cell? w a h)).trans h, hk.keep fun a v h => (hb.cell (World.block_lt_of_cell? w a h)).trans h⟩
  obtain ⟨xs, hxs⟩ : ∃ xs, xs = cellsN ms := ⟨_, rfl⟩
  have HE : Hid (xs = cellsN ms) := hid6 hxs
  have HO : Hid (∀ u ∈ xs, u.oneCell' = true) := hid6 (by rw [hxs]; exact cellsN_one _)
  have hlen : xs.length = m * 1 := by rw [hxs, cellsN_len, hm, Nat.mul_one]
  have HNM := hid6 (And.intro hn hm)
  obtain ⟨y, hy⟩ : ∃ y, y = nextS cs ms x yes := ⟨_, rfl⟩
  have HM : Hid (∀ w1 a1 c1, w1.ownsRow w.heap.size 36 2 (.slice a1 n c1) n (cellsI cs) → Below w.heap.size w w1 → ∀ v' w6, w6.ownsRow w1.heap.size 3 1 v' (0 + m) ([] ++ xs) → Step (w1.alloc (.cells #[] 3)) (.slice (some ⟨w1.heap.size, 0, none⟩) 0 0) w6 v' →
      ∃ va vc, v' = .slice va m vc ∧ Hid (Calls Try.prog 19 #[.slice a1 n c1, .slice va m vc, .int .i64 x, .bool yes] w6 (fun e w' => e = .returned (.int .i64 y) ∧ w' = w6) ∧ Calls Try.prog 20 #[.slice ca n cc, .slice ma m mc, .int .i64 x, .bool yes] w6 (fun e w' => e = .returned (.int .i64 y) ∧ w' = w6) ∧ Below w.heap.size w w6)) := hid6 (by
    intro w1 a1 c1 hr1 b1 v' w6 hr6 hs6
    rw [Nat.zero_add, List.nil_append, hxs] at hr6
    have b2 : Below w1.heap.size w1 w6 := below_new6 ((Below.refl _ w1).alloc (Nat.le_refl _) _) hs6 (fun g e => ((own_empty w1 3 1 w1.heap.size (Nat.le_refl _)).lt g e).1) (by simp)
    have b6 : Below w.heap.size w w6 := b1.trans (b2.mono b1.size)
    obtain ⟨_, a2, c2, e2, _, hI⟩ := is_of_row hr1 (C := w6.cell?) (fun a v _ h => (b2.cell (World.block_lt_of_cell? w1 a h)).trans h)
    cases e2
    obtain ⟨_, va, vc, e3, _, hN⟩ := ns_of_row hr6 (C := w6.cell?) (fun a v _ h => h)
    obtain ⟨q1, q2⟩ := HC.out w6 b6
    rw [hy]
    exact ⟨va, vc, e3, hid6 ⟨next6_any cs ms a1 va c1 vc n m hn hm x yes w6 hI hN (by omega), rnext6_any cs ms ca ma cc mc n m hn hm x yes w6 q1 q2 (by omega), b6⟩⟩)
  clear hxs hc hk hy
  go_enter Try.func5, Try.ntmps5
  go_wp2_with (first
    | (go_at_call 10; refine hO.mono ?_; clear hO; rintro e w1 ⟨a1, c1, rfl, hc1, hr1, b1⟩; rw [HNM.out.1] at hc1 hr1 ⊢; have H1 := hid6 (And.intro hr1 b1); clear hr1 b1; have b2 := hid6 (H1.out.2.alloc H1.out.2.size (.cells #[] 3)); have hl2 := HE.out ▸ HNM.out.2 ▸ (HC.out _ b2.out).2.lies mc; have HX := hid6 (own_empty w1 3 1 w1.heap.size (Nat.le_refl _)); have H7 := hid6 (HM.out w1 a1 c1 H1.out.1 H1.out.2))
    | (at_builtin; refine wpList_appN _ rfl _ _ 25 rfl elemN_int w1.heap.size _ 0 [] rfl HX.out _ rfl m xs hl2 hlen HO.out (by unfold maxLen; omega) (by omega) (by simp) ?_; intro v' w6 hr6 hs6; obtain ⟨va, vc, y6, H6⟩ := H7.out v' w6 hr6 hs6; subst y6)
    | (go_at_call 19; refine H6.out.1.mono ?_; rintro e w9 ⟨rfl, rfl⟩)
    | (go_at_call 20; refine H6.out.2.1.mono ?_; rintro e w9 ⟨rfl, rfl⟩)
    | (go_at_call 9; refine (knows6_any _).mono ?_; rintro e w8 ⟨rfl, b8⟩)
    | fail)
  go_ret
  exact ⟨rfl, H6.out.2.2.trans (b8.mono H6.out.2.2.size)⟩
end Go.Proofs.Ytnlcokcpcfbdaaa
