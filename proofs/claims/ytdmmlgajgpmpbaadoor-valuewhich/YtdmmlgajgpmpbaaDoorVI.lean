/- Rows of ints. -/
import Derived.Test.YtdmmlgajgpmpbaaDoorOF
import Derived.Test.YtdmmlgajgpmpbaaDoorVO
namespace Go.Proofs.YtdmmlgajgpmpbaaDoor
open Go.RowKit
def intsC (zs : List Int) : List Value := zs.map (Value.int .i64)
theorem intsC_snoc (zs : List Int) (x : Int) : intsC (zs ++ [x]) = intsC zs ++ [.int .i64 x] := by simp [intsC]
theorem int_info : (Tryd.prog.info? 3).map (fun i => (i.zero, i.size, i.bytes)) = some (some (.int .i64 0), 1, 8) := by kernel_rfl
theorem take_snoc {α : Type} (L : List α) (k : Nat) (h : k < L.length) : L.take (k + 1) = L.take k ++ [L[k]] := by rw [List.take_add_one, List.getElem?_eq_getElem h]; rfl
theorem ints_of_row {w : World} {base n : Nat} {v : Value} {zs : List Int} (h : w.ownsRow base 3 1 v n (intsC zs)) (hn : zs.length = n) : ∃ a c, v = .slice a n c ∧ IntsAt w a zs := by
  rcases h.2 with ⟨rfl, h0⟩ | ⟨g, cap, cur, rfl, hr⟩
  · subst h0
    exact ⟨none, 0, rfl, .inl (by simpa using hn)⟩
  · refine ⟨_, _, rfl, .inr ⟨g, 0, rfl, fun j hj => ?_⟩⟩
    have hc := World.ownsRow.cells h (g := g) rfl
    have c0 := hc j (.int .i64 zs[j]) (by simp [intsC, hj])
    rw [Addr.add_lit] at c0
    exact c0
theorem intsC_len (zs : List Int) : (intsC zs).length = zs.length := by simp [intsC]
theorem intsC_one (zs : List Int) : ∀ u ∈ intsC zs, u.oneCell' = true := by
  intro u hu
  obtain ⟨z, _, rfl⟩ := List.mem_map.1 hu
  rfl
theorem intsC_get {w : World} {b off : Nat} {zs : List Int} (hc : ∀ j (h : j < zs.length), w.cell? ⟨b, off + j, none⟩ = some (.int .i64 zs[j])) : ∀ j u, (intsC zs)[j]? = some u → w.cell? ((⟨b, off, none⟩ : Addr).add j) = some u := fun j u hu => by
  simp only [intsC, List.getElem?_map, Option.map_eq_some_iff] at hu
  obtain ⟨z, hz, rfl⟩ := hu
  obtain ⟨hj, rfl⟩ := List.getElem?_eq_some_iff.1 hz
  rw [Addr.add_lit]
  exact hc j hj
/-- An operation whose guard struck goes as one without a guard. -/
theorem wpList_unguard {P : Program} {ops : Array Oper} {Q : Exit → Act → World → Prop} {a : Act} {w : World} {rest : List Oper} {o : Oper} (hw : Region.wanted o (yielded ops a.tmps) = true) (h : wpList P ops Q ({ o with guard := none } :: rest) a w) : wpList P ops Q (o :: rest) a w := by
  rw [wpList] at h ⊢
  rw [if_pos (by rfl)] at h
  rw [if_pos hw]
  exact h
end Go.Proofs.YtdmmlgajgpmpbaaDoor
