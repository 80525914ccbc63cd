/- law06.Own; the law ShapeNexts. -/
import Derived.Test.YtodagpmcmjleaaaSL
namespace Go.Proofs.Ytodagpmcmjleaaa
open Go.RowKit
theorem own_empty (w : World) (e : TypeId) (size B : Nat) (hB : B ≤ w.heap.size) : (w.alloc (.cells #[] e)).ownsRow B e size (.slice (some ⟨w.heap.size, 0, none⟩) 0 0) 0 [] := World.ownsRow_made w #[] 0 hB (by unfold maxLen; omega) (by simp)
/-- A row of its own. -/
def InsEnd6 (cs : List (Int × Int)) (w : World) (e : Ending) (w' : World) : Prop := ∃ a cc, e = .returned (.slice a cs.length cc) ∧ cs.length ≤ cc ∧ w'.ownsRow w.heap.size 35 2 (.slice a cs.length cc) cs.length (cellsI cs) ∧ Below w.heap.size w w'
theorem below_new6 {w w1 w2 : World} {v v' : Value} {B : Nat} (h1 : Below B w w1) (hs : Step w1 v w2 v') (hv : ∀ g, v.ownBlock = some g → B ≤ g) (hB : B ≤ w1.heap.size) : Below B w w2 := h1.trans (hs.below hB hv)
set_option maxRecDepth 100000 in
set_option maxHeartbeats 1000000 in
theorem own6_any (cs : List (Int × Int)) (ca : Option Addr) (cc n : Nat) (hn : cs.length = n) (bn : n ≤ 8796093022208) (w : World) (hc : IsAt w.cell? ca cs) : Calls Try.prog 9 #[.slice ca n cc] w (InsEnd6 cs w) := by
  subst hn
  have b1 := (Below.refl _ w).alloc (Nat.le_refl _) (.cells #[] 35)
  have hlies := (hc.keep (C' := (w.alloc (.cells #[] 35)).cell?) (fun a v h => (b1.cell (World.block_lt_of_cell? w a h)).trans h)).lies cc
  have HX := hid6 (own_empty w 35 2 w.heap.size (Nat.le_refl _))
  have hlen := cellsI_len cs
  obtain ⟨xs, hxs⟩ : ∃ xs, xs = cellsI cs := ⟨_, rfl⟩
  have HO : Hid (∀ u ∈ xs, u.oneCell' = true) := hid6 (by rw [hxs]; exact cellsI_one _)
  have HE : Hid (xs = cellsI cs) := hid6 hxs
  rw [← hxs] at hlies hlen
  have HB := hid6 b1
  obtain ⟨n, hn⟩ : ∃ n, n = cs.length := ⟨_, rfl⟩
  have HN := hid6 hn
  rw [← hn] at bn hlies hlen ⊢
  clear hxs hc b1 hn
  go_enter Try.func9, Try.ntmps9
  go_wp2_with (at_builtin; refine wpList_appN _ rfl _ _ 22 rfl elemN_ins w.heap.size _ 0 [] rfl HX.out _ rfl n xs hlies hlen HO.out (by unfold maxLen; omega) (by omega) (by simp) ?_; intro v' w6 hr6 hs6)
  obtain ⟨va, vc, rfl, hvc, _⟩ := row_form hr6
  go_ret
  rw [Nat.zero_add, List.nil_append, HE.out] at hr6
  rw [Nat.zero_add] at hvc
  have hn := HN.out
  subst hn
  exact ⟨va, vc, by rw [Nat.zero_add]; rfl, hvc, hr6, below_new6 HB.out hs6 (fun g e => (HX.out.lt g e).1) HB.out.size⟩
end Go.Proofs.Ytodagpmcmjleaaa
