/- How sizes and slices that came in are read (out of layer 4's CO). -/
import Derived.Test.YtmaecpmdikdclaaMXB
import Derived.Test.YtmaecpmdikdclaaBulk
import Derived.Deep.SlicePairs
import Derived.Lib.SmallJoins
namespace Go.Proofs.Ytmaecpmdikdclaa
set_option maxRecDepth 100000
open Go.ChangeShapes Go.WideShapes Go.ChangeAt Go.RowKit
theorem weightsAll_mem {H : Type} {P : Program} {e : TypeId} : ∀ {l : List (DataW H)} {d : DataW H} {x : Nat}, d ∈ l → x ∈ d.weights P e → x ∈ DataW.weightsAll P e l
  | [], _, _, h, _ => by cases h
  | a :: r, d, x, h, hx => by
    unfold DataW.weightsAll
    rcases List.mem_cons.1 h with rfl | h
    · exact List.mem_append_left _ hx
    · exact List.mem_append_right _ (weightsAll_mem h hx)
theorem weightsEach_mem {H : Type} {P : Program} : ∀ {ts : List TypeId} {ds : List (DataW H)} {j : Nat} {t : TypeId} {d : DataW H} {x : Nat}, ts[j]? = some t → ds[j]? = some d → x ∈ d.weights P t → x ∈ DataW.weightsEach P ts ds
  | [], _, _, _, _, _, h, _, _ => by simp at h
  | _ :: _, [], _, _, _, _, _, h, _ => by simp at h
  | t0 :: ts, d0 :: ds, 0, _, _, _, h, h', hx => by
    simp at h h'
    subst h h'
    exact List.mem_append_left _ hx
  | t0 :: ts, d0 :: ds, j + 1, _, _, _, h, h', hx => by
    simp at h h'
    exact List.mem_append_right _ (weightsEach_mem h h' hx)
/-- The sizes of what came in: the bytes of each slice, and the whole's bulk. -/
def Sz {H : Type} (m : Nat) (P : Program) (t : TypeId) (d : DataW H) : Prop := (∀ k ∈ d.weights P t, k ≤ reachBytes) ∧ Rows.uptoBulk d ≤ m
theorem Sz.part {H : Type} {m : Nat} {P : Program} {t : TypeId} {fs : Array Field} {ds : List (DataW H)} (ht : P.underlying t = some (.struct fs)) (h : Sz m P t (.agg ds)) (j : Nat) {u : TypeId} {d : DataW H} (hu : (fs.toList.map (·.type))[j]? = some u) (hd : ds[j]? = some d) : Sz m P u d := by
  refine ⟨fun k hk => h.1 k ?_, ?_⟩
  · unfold DataW.weights
    rw [ht]
    exact weightsEach_mem hu hd hk
  · have h1 := h.2
    have h2 := bulks.within (List.mem_of_getElem? hd)
    simp only [Rows.uptoBulk] at h1
    omega
/-- A slice that came in, opened at each index. -/
theorem open_el {H : Type} {enc : TypeId × Value → H} {P : Program} {w : World} {t e : TypeId} {fuel : Nat} {v : Value} {m0 : Nat} {x : DataW H × List MemPlace} (ht : P.underlying t = some (.slice e)) (hpos : 0 < P.cellsOf e) (h : DataW.trod enc P w 0 (fun _ => true) true fuel t [v] = some x) (hs : Sz m0 P t x.1) :
    ∃ a0 len cap, v = .slice a0 len cap ∧ len * P.bytesOf e ≤ reachBytes ∧ len ≤ m0 ∧ (len = 0 ∨ ∃ b off, a0 = some ⟨b, off, none⟩ ∧ ∀ i, i < len → ∃ cs y n, cs.length = P.cellsOf e ∧ (∀ j, j < P.cellsOf e → w.cell? ⟨b, off + (i * P.cellsOf e + j), none⟩ = cs[j]?) ∧ DataW.trod enc P w 0 (fun _ => true) true n e cs = some y ∧ Sz m0 P e y.1) := by
  rcases Go.Deep.open_slice ht h with ⟨hcs, hx⟩ | ⟨a, len, cap, m, n, D, Pl, hcs, hb, hl, hm, hmm, rfl, hx⟩
  · simp only [List.cons.injEq, and_true] at hcs
    exact ⟨none, 0, 0, hcs, by simp, Nat.zero_le _, .inl rfl⟩
  · simp only [List.cons.injEq, and_true] at hcs
    simp only [if_true] at hmm
    subst hmm
    have hw : ∀ k ∈ ((List.range len).map D).length + ((List.range (m - len)).map fun j => D (len + j)).length |> fun z => (z * P.bytesOf e :: (DataW.weightsAll P e ((List.range len).map D) ++ DataW.weightsAll P e ((List.range (m - len)).map fun j => D (len + j)))), k ≤ reachBytes := by
      intro k hk
      refine hs.1 k ?_
      unfold DataW.weights
      rw [ht]
      exact hk
    have hbk := hs.2
    simp only [Rows.uptoBulk] at hbk
    refine ⟨some a, len, m, hcs, ?_, by have := bulks.many ((List.range len).map D); simp only [List.length_map, List.length_range] at this; omega, ?_⟩
    · have := hw _ (List.mem_cons_self ..)
      simp only [List.length_map, List.length_range] at this
      exact Nat.le_trans (Nat.mul_le_mul_right _ (by omega)) this
    · by_cases h0 : len = 0
      · exact .inl h0
      right
      obtain ⟨b, off, spot⟩ := a
      have hadd : ∀ (b off k : Nat), (⟨b, off, none⟩ : Addr).add k = ⟨b, off + k, none⟩ := fun b off k => by unfold Addr.add; split <;> simp_all
      have hspot : spot = none := by
        obtain ⟨cs', h1, _⟩ := hx 0 (by omega)
        obtain ⟨_, hlen, hcell⟩ := World.cells?_some h1
        have := hcell 0 hpos
        rw [List.getElem?_eq_getElem (by omega)] at this
        simpa [Addr.add] using World.cell?_spot this
      subst hspot
      refine ⟨b, off, rfl, fun i hi => ?_⟩
      obtain ⟨cs', h1, h2⟩ := hx i (by omega)
      obtain ⟨_, hlen, hcell⟩ := World.cells?_some h1
      refine ⟨cs', _, n, hlen, fun j hj => ?_, h2, fun k hk => ?_, ?_⟩
      · have := hcell j hj
        rw [Go.Deep.add_add, hadd] at this
        exact this
      · refine hw k (List.mem_cons_of_mem _ (List.mem_append_left _ (weightsAll_mem (d := D i) ?_ hk)))
        exact List.mem_map.2 ⟨i, List.mem_range.2 hi, rfl⟩
      · have := bulks.within (List.mem_map.2 ⟨i, List.mem_range.2 hi, rfl⟩ : D i ∈ (List.range len).map D)
        show Rows.uptoBulk (D i) ≤ m0
        omega
theorem reach_num : reachBytes = 140737488351232 := rfl
end Go.Proofs.Ytmaecpmdikdclaa
