/- Parse of what Print wrote. -/
import Derived.Test.YtkmfopdklohgnaaDoorVX
import Derived.Test.YtkmfopdklohgnaaDoorVO
namespace Go.Proofs.YtkmfopdklohgnaaDoor
open Go.RowKit Go.Shelf
attribute [local go_sem high] eq_val eq_val0
theorem cells_same (L : List Val) : cellsOf' L = cellsL L := by
  induction L with
  | nil => rfl
  | cons x r ih =>
    simp only [cellsOf', cellsL, List.flatMap_cons] at ih ⊢
    rw [ih]
    rfl
set_option maxRecDepth 100000 in
set_option maxHeartbeats 1000000 in
theorem parse_none (w : World) : Calls Tryd.prog 5 #[.string ⟨#[]⟩] w fun e w' => e = .returned (.tuple #[.slice none 0 0, .int .i64 0]) ∧ Below w.heap.size w w' := by
  go_enter Tryd.func5, Tryd.ntmps5
  go_wp2
  have bR := Boxed.new w 22 (.slice none 0 0)
  have bE := Boxed.new (w.alloc (.cells #[.slice none 0 0] 22)) 24 (.int .i64 0)
  simp only [World.size_alloc] at bE
  refine bodyPost_ret (results_cells rfl _ _ _ _ _ _ _ rfl rfl (load_slice (bR.alloc _).cell) (load_errno bE.cell)) rfl ⟨rfl, ?_⟩
  exact ((Below.refl _ w).alloc (Nat.le_refl _) _).alloc (by simp) _
/-- Parse of a text that Print wrote. -/
theorem parse_print (L : List Val) (hl : L.length ≤ 255) (hR : L.all Val.right = true) (hG : Good L) (hb : ∀ x ∈ L, x.b.length ≤ 256) (w : World) (hL : Laid w) : Calls Tryd.prog 5 #[.string ⟨(printOf L).toArray⟩] w fun e w' => ∃ ad cap, e = .returned (.tuple #[.slice ad L.length cap, .int .i64 0]) ∧ Vs w' ad L ∧ Below w.heap.size w w' := by
  have hp : printOf L = printList L := by simp [printOf, hR]
  rw [hp]
  by_cases h0 : L = []
  · subst h0
    refine (parse_none w).mono ?_
    rintro e w' ⟨rfl, hb'⟩
    exact ⟨none, 0, rfl, .inl rfl, hb'⟩
  have hlen : (printList L).length ≤ 1048576 := by
    have := join_len (L.map wordOf) 600 fun x hx => by
      obtain ⟨y, hy, rfl⟩ := List.mem_map.1 hx
      have h1 := hb y hy
      obtain ⟨h2, h3, h4⟩ := hG y hy
      unfold wordOf
      split
      · have := Lib.itoa_length_le y.n h3 h4; omega
      split
      · rw [hex_len]; omega
      split <;> simp
    simp only [List.length_map] at this
    unfold printList
    omega
  refine (parse_all (printList L) w hL (print_ne L h0) hlen).mono ?_
  have hread : ∀ x ∈ L, readOf (wordOf x) = some x := fun x hx => read_word x (List.all_eq_true.1 hR x hx) (hG x hx).2.1 (hG x hx).2.2
  have hvals : valsOf readOf (L.map wordOf) = L := by
    unfold valsOf
    rw [List.map_map]
    conv => rhs; rw [← List.map_id L]
    exact List.map_congr_left fun x hx => by simp [hread x hx]
  rintro e w' ⟨hbl, ⟨_, v, rfl, hrow⟩ | ⟨⟨x, hx, hn⟩, _⟩⟩
  · rw [pieces_print L h0, hvals, List.length_map, cells_same] at hrow
    obtain ⟨ad, cap, rfl, hV⟩ := vs_of_row hrow rfl
    exact ⟨ad, cap, rfl, hV, hbl⟩
  · rw [pieces_print L h0] at hx
    obtain ⟨y, hy, rfl⟩ := List.mem_map.1 hx
    rw [hread y hy] at hn
    cases hn
end Go.Proofs.YtkmfopdklohgnaaDoor
