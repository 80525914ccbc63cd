/- Layer 9: num, calm. -/
import Derived.Test.YtodagpmcmjleaaaYH
import Derived.Test.YtodagpmcmjleaaaLNexts
namespace Go.Proofs.Ytodagpmcmjleaaa
open Go.RowKit
theorem num9_any (x : Int) (w : World) : Calls Try.prog 12 #[.int .i64 x] w fun e w' => e = .returned (.int .i64 x) ∧ w' = w := by
  go_enter Try.func12, Try.ntmps12
  go_wp2
  go_ret
  exact ⟨rfl, rfl⟩
theorem cells_new9 (W : World) (xs : List Value) (t : TypeId) (B : Nat) (hB : W.heap.size = B) : ∀ j u, xs[j]? = some u → (W.alloc (.cells xs.toArray t)).cell? ((⟨B, 0, none⟩ : Addr).add j) = some u := by
  subst hB
  intro j u hu
  rw [Addr.add_lit, Lib.cell_of_heap (heap_alloc_new W (.cells xs.toArray t))]
  simpa using hu
/-- A row of its own. -/
def RowE9 (ns : List Int) (w : World) (e : Ending) (w' : World) : Prop := ∃ a cc, e = .returned (.slice a ns.length cc) ∧ w'.ownsRow w.heap.size 3 1 (.slice a ns.length cc) ns.length (cellsN ns) ∧ Below w.heap.size w w'
def calm1 (z : Int) : Int := (wrap64 (z.tmod 5000 + 5000)).tmod 5000
theorem calm1_in (z : Int) : 0 ≤ calm1 z ∧ calm1 z < 5000 := by
  unfold calm1
  have h1 : (z.tmod 5000).natAbs = z.natAbs % 5000 := by rw [Int.natAbs_tmod]; rfl
  have h2 := Nat.mod_lt z.natAbs (show 0 < 5000 by omega)
  generalize z.tmod 5000 = x at *
  have e : wrap64 (x + 5000) = x + 5000 := by unfold wrap64; omega
  rw [e, Int.tmod_eq_emod_of_nonneg (by omega)]
  omega
def calmS (ns : List Int) : List Int := (ns.take 20).map calm1
set_option maxRecDepth 100000 in
set_option maxHeartbeats 1000000 in
theorem calm9_any (ns : List Int) (a : Option Addr) (n c : Nat) (hn : ns.length = n) (bn : n ≤ 1000000000000000) (w : World) (hz : NsAt w.cell? a ns) :
    Calls Try.prog 14 #[.slice a n c] w (RowE9 (calmS ns) w) := by
  have HN := hid9 hn
  have HZ := hid9 hz
  clear hn hz
  go_enter Try.func14, Try.ntmps14
  go_wp2_with fail
  go_loopw [3, 4] (fun lv iv wr => ∃ k : Nat, iv = .int .i64 k ∧ k ≤ n ∧ k ≤ 20 ∧ Hid (wr.ownsRow w.heap.size 3 1 lv k (cellsN ((ns.take k).map calm1)) ∧ Below w.heap.size w wr)) (fun _ iv _ => 20 - (intOf iv).toNat)
  case atStart => exact ⟨0, rfl, Nat.zero_le _, Nat.zero_le _, hid9 ⟨World.ownsRow_nil _ _ _ _, Below.refl _ _⟩⟩
  case round =>
    obtain ⟨k, rfl, hk, hk2, HR⟩ := hrel
    obtain ⟨ra, rc, eav, hrc, _⟩ := row_form HR.out.1
    subst eav
    by_cases hlt : k < n ∧ k < 20
    · obtain ⟨h1, h2⟩ := hlt
      have hkl : k < ns.length := by rw [HN.out]; exact h1
      obtain ⟨zb, zo, e1, z1⟩ : ∃ zb zo, a = some ⟨zb, zo, none⟩ ∧ wr.cell? ⟨zb, zo + k, none⟩ = some (.int .i64 ns[k]) := by
        rcases HZ.out.keep (below_keep HR.out.2) with h | ⟨b, o, e, h⟩
        · rw [h] at hkl; cases hkl
        · exact ⟨b, o, e, h k hkl⟩
      subst e1
      have HT : Hid (cellsN ((ns.take (k + 1)).map calm1) = cellsN ((ns.take k).map calm1) ++ [.int .i64 (calm1 ns[k])]) := hid9 (by
        rw [List.take_succ_eq_append_getElem hkl]
        rw [List.map_append, cellsN_append]
        rfl)
      have HC := hid9 (calm1_in ns[k])
      have HR3 : Hid (∀ v, (wr.alloc (.cells #[v] 3)).ownsRow w.heap.size 3 1 (.slice ra k rc) k (cellsN ((ns.take k).map calm1))) := hid9 fun v => HR.out.1.alloc _
      have HB : Hid (∀ v, Below w.heap.size w (wr.alloc (.cells #[v] 3))) := hid9 fun v => HR.out.2.alloc HR.out.2.size _
      have s1 : w.heap.size ≤ wr.heap.size := HR.out.2.size
      generalize ns[k] = z at *
      clear HR HZ
      go_wp2_with (first
        | (at_builtin; refine wpList_appN _ rfl _ _ 23 rfl elemN_int w.heap.size _ k (cellsN ((ns.take k).map calm1)) rfl (HR3.out _) _ rfl 1 [(.int .i64 ((wrap64 (z.tmod 5000 + 5000)).tmod 5000))] (.inr ⟨⟨_, 0, none⟩, 1, rfl, cells_new9 _ [(.int .i64 ((wrap64 (z.tmod 5000 + 5000)).tmod 5000))] 3 _ (by simp)⟩) rfl (by simp [Value.oneCell']) (by unfold maxLen; omega) (by omega) (by simp; omega) ?_; intro v' w6 hr6 hs6)
        | fail)
      have b6 := hs6.below (B := w.heap.size) (by simp; omega) (fun g e => ((HR3.out undef).lt g e).1)
      refine ⟨⟨k + 1, by go_num, by omega, by omega, hid9 ⟨?_, (HB.out _).trans b6⟩⟩, by simp [intOf]; omega⟩
      rw [HT.out]
      exact hr6
    · have HE : Hid (k = (calmS ns).length ∧ (ns.take k).map calm1 = calmS ns) := hid9 (by
        have := HN.out
        unfold calmS
        rcases Nat.lt_or_ge k 20 with q | q
        · have e : k = n := by omega
          rw [e, ← this, List.take_length, List.take_of_length_le (by omega)]
          simp
        · have e : k = 20 := by omega
          rw [e]
          simp
          omega)
      have HX : Hid (RowE9 (calmS ns) w (.returned (.slice ra k rc)) wr) := hid9 (by
        have h := HR.out
        rw [HE.out.2] at h
        rw [HE.out.1] at h ⊢
        exact ⟨ra, rc, rfl, h.1, h.2⟩)
      clear HR HE HZ
      rcases Nat.lt_or_ge k n with q | q
      · have e : k = 20 := by omega
        subst e
        go_wp2_with fail
        go_ret
        exact HX.out
      · go_wp2_with fail
        go_ret
        exact HX.out
def kn9 : List (Int × Int) := [(51, 3), (1, 1), (5, 0), (50, 0)]
theorem kn9_part : partS kn9 [] = (11, 0) := by decide
set_option maxRecDepth 100000 in
set_option maxHeartbeats 1000000 in
theorem knows9_any (w : World) : Calls Try.prog 8 #[] w fun e w' => e = .returned (.bool true) ∧ Below w.heap.size w w' := by
  obtain ⟨W, hW⟩ : ∃ W, W = w.alloc (.cells #[.int .i64 51, .int .i64 3, .int .i64 1, .int .i64 1, .int .i64 5, .int .i64 0, .int .i64 50, .int .i64 0] 35) := ⟨_, rfl⟩
  have b1 : Below w.heap.size w W := by rw [hW]; exact (Below.refl _ w).alloc (Nat.le_refl _) _
  have hi : IsAt W.cell? (some ⟨w.heap.size, 0, none⟩) kn9 := .inr ⟨w.heap.size, 0, rfl, fun j hj => by
    have hh : W.heap[w.heap.size]? = some (.cells #[.int .i64 51, .int .i64 3, .int .i64 1, .int .i64 1, .int .i64 5, .int .i64 0, .int .i64 50, .int .i64 0] 35 (0, 0)) := by rw [hW]; exact heap_alloc_new w _
    have hj2 : j = 0 ∨ j = 1 ∨ j = 2 ∨ j = 3 := by simp [kn9] at hj; omega
    rcases hj2 with rfl | rfl | rfl | rfl <;> exact ⟨Lib.cell_of_heap hh _, Lib.cell_of_heap hh _⟩⟩
  have HP : Hid (Calls Try.prog 10 #[.slice (some ⟨w.heap.size, 0, none⟩) 4 4, .slice none 0 0] W fun e w' => e = .returned (.tuple #[.int .i64 11, .int .i64 0]) ∧ Hid (Below w.heap.size w w')) := hid9 (by
    have := part9_any kn9 [] (some ⟨w.heap.size, 0, none⟩) none 4 0 (by decide) (by decide) W hi (.inl rfl)
    rw [kn9_part] at this
    exact this.mono fun e w' ⟨h1, h2⟩ => ⟨h1, hid9 (b1.trans (h2.mono b1.size))⟩)
  rw [hW] at HP
  clear hi b1 hW
  go_enter Try.func8, Try.ntmps8
  go_wp2_with (first | (go_at_call 10; refine HP.out.mono ?_; clear HP; rintro e w4 ⟨rfl, HW⟩) | (go_at_call 12; refine (num9_any _ _).mono ?_; rintro e w5 ⟨rfl, rfl⟩) | fail)
  go_ret
  exact ⟨rfl, HW.out⟩
end Go.Proofs.Ytodagpmcmjleaaa
