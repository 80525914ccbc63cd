/- How the calls that WireWrites is handed are read. -/
import Derived.Test.YtjnmgnnaefiegaaDoorTriples
import Derived.Test.YtjnmgnnaefiegaaDoorBase2
import Derived.Test.YtjnmgnnaefiegaaDoorBulk
import Derived.Test.YtjnmgnnaefiegaaDoorLWrites
namespace Go.Proofs.YtjnmgnnaefiegaaDoor
open Go.ChangeShapes Go.WideShapes Go.ChangeAt Go.RowKit

theorem of_ints {H : Type} {enc : TypeId × Value → H} {W : World} {n : Nat} {v : Value} {y : DataW H × List MemPlace} (h : DataW.trod enc Tryd.prog W 0 (fun _ => true) true n 30 [v] = some y) (hbulk : Rows.uptoBulk y.1 ≤ 1048576) :
    ∃ (ns : List Int) (a : Option Addr) (c : Nat), v = .slice a ns.length c ∧ Is W a ns ∧ ns.length ≤ 1048576 := by
  obtain ⟨a0, len, cap, rfl⟩ : ∃ a0 len cap, v = .slice a0 len cap := by
    obtain ⟨a, l, c, e⟩ := Go.Joins.slice_form Tryd.underlying30 h
    simp only [List.cons.injEq, and_true] at e
    exact ⟨a, l, c, e⟩
  obtain ⟨ns, hl, hc, hI, _, hd⟩ := open_nums (enc := enc) (W := W) (a0 := a0) (len := len) (cap := cap) (d0 := y.1) (p0 := y.2) ⟨n, by simpa [Value.cells] using h⟩
  refine ⟨ns, a0, cap, by rw [hl], hI, ?_⟩
  rcases hd with ⟨_, h0⟩ | ⟨el, sp, h1, h2⟩
  · omega
  · rw [h1] at hbulk
    have := bulks.many el
    have := bulks.many sp
    simp only [Rows.uptoBulk] at hbulk
    omega
theorem of_strs {H : Type} {enc : TypeId × Value → H} {W : World} {n : Nat} {v : Value} {y : DataW H × List MemPlace} (h : DataW.trod enc Tryd.prog W 0 (fun _ => true) true n 31 [v] = some y) (hbulk : Rows.uptoBulk y.1 ≤ 1048576) :
    ∃ (ss : List (List UInt8)) (a : Option Addr) (c : Nat), v = .slice a ss.length c ∧ Ss W a ss ∧ ss.length ≤ 1048576 ∧ ∀ i (h : i < ss.length), (ss[i]).length ≤ 9223372036854775807 := by
  obtain ⟨a0, len, cap, rfl⟩ : ∃ a0 len cap, v = .slice a0 len cap := by
    obtain ⟨a, l, c, e⟩ := Go.Joins.slice_form Tryd.underlying31 h
    simp only [List.cons.injEq, and_true] at e
    exact ⟨a, l, c, e⟩
  obtain ⟨ss, hl, hc, hS, hr, hd⟩ := open_texts (enc := enc) (W := W) (a0 := a0) (len := len) (cap := cap) (d0 := y.1) (p0 := y.2) ⟨n, by simpa [Value.cells] using h⟩
  refine ⟨ss, a0, cap, by rw [hl], hS, ?_, hr⟩
  rcases hd with ⟨_, h0⟩ | ⟨el, sp, h1, h2⟩
  · omega
  · rw [h1] at hbulk
    have := bulks.many el
    have := bulks.many sp
    simp only [Rows.uptoBulk] at hbulk
    omega
theorem open_puts {H : Type} {enc : TypeId × Value → H} {W : World} {a0 : Option Addr} {len cap : Nat} {d0 : DataW H} {p0 : List MemPlace} (h : DataW.Trod enc Tryd.prog W 0 (fun _ => true) true 22 (.slice a0 len cap) d0 p0) {l : List (DataW H)} (hb : Rows.uptoBulkAll l ≤ 1048576) (hm : d0 ∈ l) :
    ∃ L : List (Int × List Int × List (List UInt8)), L.length = len ∧ len ≤ 1048576 ∧ Puts W a0 L ∧ ∀ j (h : j < L.length), L[j].2.1.length ≤ 1048576 ∧ L[j].2.2.length ≤ 1048576 ∧ ∀ i (h' : i < L[j].2.2.length), (L[j].2.2[i]).length ≤ 9223372036854775807 := by
  obtain ⟨fuel, hf⟩ := h
  have hd := bulks.within hm
  rcases open_triples Tryd.underlying22 Tryd.underlying33 (by kernel_rfl) rfl rfl rfl (by kernel_rfl) (by kernel_rfl) (by kernel_rfl) hf with ⟨hcs, hx⟩ | ⟨a, l', c, n, D, hcs, hl, hmx, hx, hr⟩
  · simp [Value.cells] at hcs
    obtain ⟨rfl, rfl, rfl⟩ := hcs
    exact ⟨[], rfl, Nat.zero_le _, .inl rfl, fun j h => by simp at h⟩
  · simp [Value.cells] at hcs
    obtain ⟨rfl, rfl, rfl⟩ := hcs
    simp only at hx
    have hDm : ∀ i, i < len → Rows.uptoBulk (D i) ≤ 1048576 := fun i hi => by
      have h1 : Rows.uptoBulk (D i) ≤ Rows.uptoBulkAll ((List.range len).map D) := bulks.within (List.mem_map.2 ⟨i, List.mem_range.2 hi, rfl⟩)
      rw [hx] at hd
      simp only [Rows.uptoBulk] at hd
      omega
    have hlen : len ≤ 1048576 := by
      have h1 := bulks.many ((List.range len).map D)
      rw [hx] at hd
      simp only [Rows.uptoBulk] at hd
      simp only [List.length_map, List.length_range] at h1
      omega
    have hadd : ∀ (b off k : Nat), (⟨b, off, none⟩ : Addr).add k = ⟨b, off + k, none⟩ := fun b off k => by unfold Addr.add; split <;> simp_all
    by_cases h0 : len = 0
    · subst h0
      exact ⟨[], rfl, Nat.zero_le _, .inl rfl, fun j h => by simp at h⟩
    obtain ⟨b, off, spot⟩ := a
    have hspot : spot = none := by
      obtain ⟨v0, _, _, _, _, _, q, _⟩ := hr 0 (by omega)
      simpa [Addr.add] using World.cell?_spot q
    subst hspot
    have each : ∀ i, i < len → ∃ x : Int × List Int × List (List UInt8), PutAt W b (off + i * 3) x ∧ x.2.1.length ≤ 1048576 ∧ x.2.2.length ≤ 1048576 ∧ ∀ j (h' : j < x.2.2.length), (x.2.2[j]).length ≤ 9223372036854775807 := by
      intro i hi
      obtain ⟨v0, v1, v2, y0, y1, y2, q0, q1, q2, t0, t1, t2, hDi⟩ := hr i (by omega)
      rw [hadd] at q0 q1 q2
      have hbi := hDm i hi
      rw [hDi] at hbi
      simp only [Rows.uptoBulk, Rows.uptoBulkAll] at hbi
      obtain ⟨K, hK, _, _⟩ := DataW.trod_int Tryd.underlying3 t0
      simp only [List.cons.injEq, and_true] at hK
      obtain ⟨ns, a1, c1, rfl, hI, hn1⟩ := of_ints t1 (by omega)
      obtain ⟨ss, a2, c2, rfl, hS, hn2, hn3⟩ := of_strs t2 (by omega)
      subst hK
      exact ⟨(K, ns, ss), ⟨q0, ⟨a1, c1, by rw [Nat.add_assoc]; exact q1, hI⟩, ⟨a2, c2, by rw [Nat.add_assoc]; exact q2, hS⟩⟩, hn1, hn2, hn3⟩
    obtain ⟨x, hx'⟩ := Go.Deep.choose_lt each
    refine ⟨(List.range len).map x, by simp, hlen, .inr ⟨b, off, rfl, fun j hj => ?_⟩, fun j hj => ?_⟩
    · simp only [List.length_map, List.length_range] at hj
      simp only [List.getElem_map, List.getElem_range]
      exact (hx' j hj).1
    · simp only [List.length_map, List.length_range] at hj
      simp only [List.getElem_map, List.getElem_range]
      exact (hx' j hj).2
end Go.Proofs.YtjnmgnnaefiegaaDoor
