/- How values and texts that came in are read, where their bulk is bounded. -/
import Derived.Test.YtkmfopdklohgnaaDoorVVals
import Derived.Test.YtkmfopdklohgnaaDoorBulk
namespace Go.Proofs.YtkmfopdklohgnaaDoor
set_option maxRecDepth 100000
open Go.ChangeShapes Go.WideShapes Go.ChangeAt Go.RowKit
/-- A slice of values that came in. -/
theorem open_vals_upto {H : Type} {enc : TypeId × Value → H} {W : World} {a0 : Option Addr} {len cap : Nat} {d0 : DataW H} {p0 : List MemPlace} (h : DataW.Trod enc Tryd.prog W 0 (fun _ => true) true 22 (.slice a0 len cap) d0 p0)
    {l : List (DataW H)} (hb : Rows.uptoBulkAll l ≤ 1048576) (hm : d0 ∈ l) :
    ∃ L : List Val, L.length = len ∧ Vs W a0 L ∧ (∀ x ∈ L, (x.b.length ≤ 1048576) ∧ (-9223372036854775808 ≤ x.n ∧ x.n ≤ 9223372036854775807)) ∧ len ≤ 1048576 := by
  obtain ⟨fuel, hf⟩ := h
  have hd := bulks.within hm
  rcases open_three Tryd.underlying22 Tryd.underlying39 (by kernel_rfl) rfl rfl rfl (by kernel_rfl) (by kernel_rfl) (by kernel_rfl) hf with ⟨hcs, hx⟩ | ⟨a, l', c, n, D, hcs, hl, hmx, hx, hr⟩
  · simp [Value.cells] at hcs
    obtain ⟨rfl, rfl, rfl⟩ := hcs
    exact ⟨[], rfl, .inl rfl, fun x h => by simp at h, by simp⟩
  · simp [Value.cells] at hcs
    obtain ⟨rfl, rfl, rfl⟩ := hcs
    simp only at hx
    have hDm : ∀ i, i < len → Rows.uptoBulk (D i) ≤ 1048576 := fun i hi => by
      have h1 : Rows.uptoBulk (D i) ≤ Rows.uptoBulkAll ((List.range len).map D) := bulks.within (List.mem_map.2 ⟨i, List.mem_range.2 hi, rfl⟩)
      rw [hx] at hd
      simp only [Rows.uptoBulk] at hd
      omega
    have hlen : len ≤ 1048576 := by
      have h1 := bulks.many ((List.range len).map D)
      rw [hx] at hd
      simp only [Rows.uptoBulk] at hd
      simp only [List.length_map, List.length_range] at h1
      omega
    have hadd : ∀ (b off k : Nat), (⟨b, off, none⟩ : Addr).add k = ⟨b, off + k, none⟩ := fun b off k => by unfold Addr.add; split <;> simp_all
    by_cases h0 : len = 0
    · subst h0
      exact ⟨[], rfl, .inl rfl, fun x h => by simp at h, by simp⟩
    obtain ⟨b, off, spot⟩ := a
    have hspot : spot = none := by
      obtain ⟨v0, _, _, _, _, _, q, _⟩ := hr 0 (by omega)
      simpa [Addr.add] using World.cell?_spot q
    subst hspot
    have each : ∀ i, i < len → ∃ x : Val, (W.cell? ⟨b, off + i * 3, none⟩ = some (.int .i64 x.t) ∧ W.cell? ⟨b, off + i * 3 + 1, none⟩ = some (.int .i64 x.n) ∧ W.cell? ⟨b, off + i * 3 + 2, none⟩ = some (.string ⟨x.b.toArray⟩)) ∧ (x.b.length ≤ 1048576) ∧ (-9223372036854775808 ≤ x.n ∧ x.n ≤ 9223372036854775807) := by
      intro i hi
      obtain ⟨v0, v1, v2, y0, y1, y2, q0, q1, q2, t0, t1, t2, hDi⟩ := hr i (by omega)
      rw [hadd] at q0 q1 q2
      have hbi := hDm i hi
      rw [hDi] at hbi
      simp only [Rows.uptoBulk, Rows.uptoBulkAll] at hbi
      obtain ⟨n0, e0, _, _⟩ := DataW.trod_int Tryd.underlying3 t0
      obtain ⟨n1, e1, _, w1⟩ := DataW.trod_int Tryd.underlying3 t1
      obtain ⟨s2, e2, hy2, w2⟩ := DataW.trod_string Tryd.underlying9 t2
      simp only [List.cons.injEq, and_true] at e0 e1 e2
      subst e0 e1 e2
      obtain ⟨⟨l⟩⟩ := s2
      rw [hy2] at hbi
      simp only [Rows.uptoBulk] at hbi
      exact ⟨⟨n0, n1, l⟩, ⟨q0, q1, q2⟩, by simp at hbi ⊢; omega, int_wf w1⟩
    haveI : Inhabited Val := ⟨⟨0, 0, []⟩⟩
    obtain ⟨x, hx'⟩ := Go.Deep.choose_lt each
    refine ⟨(List.range len).map x, by simp, .inr ⟨b, off, rfl, fun j hj => ?_⟩, fun y hy => ?_, hlen⟩
    · simp only [List.length_map, List.length_range] at hj
      simp only [List.getElem_map, List.getElem_range]
      exact (hx' j hj).1
    · obtain ⟨j, hj, rfl⟩ := List.mem_map.1 hy
      exact (hx' j (List.mem_range.1 hj)).2
/-- A text that came in. -/
theorem open_txt_upto {H : Type} {enc : TypeId × Value → H} {W : World} {base : Nat} {v : Value} {d : DataW H} {ps : List MemPlace} (hval : Value.okWide Tryd.prog W .any base 9 v) (hd : DataW.Trod enc Tryd.prog W 0 (fun _ => true) true 9 v d ps) {l : List (DataW H)} (hb : Rows.uptoBulkAll l ≤ 1048576) (hm : d ∈ l) : ∃ s : List UInt8, v = .string ⟨s.toArray⟩ ∧ s.length ≤ 1048576 := by
  obtain ⟨s, rfl, rfl, rfl, hs⟩ := Go.ChangeMaps.open_string Tryd.underlying9 hval hd
  obtain ⟨⟨l'⟩⟩ := s
  have h := bulks.within hm
  simp only [Rows.uptoBulk] at h
  exact ⟨l', rfl, by first | omega | (simp at h; omega)⟩
end Go.Proofs.YtkmfopdklohgnaaDoor
