/- Layer 16: what the cards share: fates that came in. -/
import Derived.Test.YthmjejmignangaaGreatDoorLFu16
namespace Go.Proofs.YthmjejmignangaaGreatDoor
set_option maxRecDepth 100000
open Go.ChangeShapes Go.WideShapes Go.ChangeAt Go.RowKit
/-- Fates that came in. -/
theorem open_fates16 {H : Type} {enc : TypeId × Value → H} {W : World} {a0 : Option Addr} {len cap : Nat} {d0 : DataW H} {p0 : List MemPlace} (h : DataW.Trod enc Tryz.prog W 0 (fun _ => true) true 58 (.slice a0 len cap) d0 p0)
    {ts : List TypeId} {ds : List (DataW H)} (hsz : (DataW.weightsEach Tryz.prog ts ds).all (· ≤ reachBytes) = true) {j : Nat} (ht : ts[j]? = some 58) (hd : ds[j]? = some d0) :
    ∃ ns : List Int, FatO (fun i => ¬ i < W.heap.size) W (.slice a0 len cap) ns := by
  obtain ⟨fuel, hf⟩ := h
  simp [Value.cells] at hf
  rcases Go.Deep.open_slice Tryz.underlying58 hf with ⟨hcs, hx⟩ | ⟨a, l, c, m, n, D, Pl, hcs, hb, hl, hm, hmm, hx, hr⟩
  · simp only [List.cons.injEq, and_true, Value.slice.injEq] at hcs
    obtain ⟨rfl, rfl, rfl⟩ := hcs
    exact ⟨[], none, 0, rfl, Nat.zero_le _, by omega, .inl rfl⟩
  · simp only [List.cons.injEq, and_true, Value.slice.injEq] at hcs
    obtain ⟨rfl, rfl, rfl⟩ := hcs
    simp only [if_true] at hmm
    subst hmm
    injection hx with hx _
    have hcap : m ≤ 4611686018427387904 := by
      rw [hx] at hd
      have := sized_slice hsz ht hd Tryz.underlying58
      rw [show Tryz.prog.bytesOf 3 = 8 by kernel_rfl] at this
      simp only [List.length_map, List.length_range] at this
      have h2 : reachBytes = 140737488351232 := rfl
      rw [h2] at this
      omega
    by_cases h0 : len = 0
    · subst h0
      exact ⟨[], _, _, rfl, Nat.zero_le _, hcap, .inl rfl⟩
    have hadd : ∀ (b off k : Nat), (⟨b, off, none⟩ : Addr).add k = ⟨b, off + k, none⟩ := fun b off k => by unfold Addr.add; split <;> simp_all
    have each : ∀ i, i < len → ∃ x : Int, W.cell? (a.add i) = some (.int .i64 x) := by
      intro i hi
      obtain ⟨cs', h1, h2⟩ := hr i (by omega)
      rw [show Tryz.prog.cellsOf 3 = 1 by kernel_rfl] at h1
      obtain ⟨_, hlen, hcell⟩ := World.cells?_some h1
      match cs', hlen with
      | [v0], _ =>
        obtain ⟨n0, e0, _, w0⟩ := DataW.trod_int Tryz.underlying3 h2
        simp only [List.cons.injEq, and_true] at e0
        subst e0
        have := hcell 0 (by omega)
        rw [Go.Deep.add_add] at this
        exact ⟨n0, by simpa using this⟩
    obtain ⟨x, hx'⟩ := Go.Deep.choose_lt each
    obtain ⟨b, off, spot⟩ := a
    have hspot : spot = none := by
      have q := hx' 0 (by omega)
      simpa [Addr.add] using World.cell?_spot q
    subst hspot
    refine ⟨(List.range len).map x, some ⟨b, off, none⟩, m, by simp, by simpa using hl, hcap, .inr ⟨b, off, rfl, ?_, fun j hj => ?_⟩⟩
    · have q := hx' 0 (by omega)
      rw [hadd] at q
      exact fun z => z (World.block_lt_of_cell? _ _ q)
    · simp only [List.length_map, List.length_range] at hj
      simp only [List.getElem_map, List.getElem_range]
      have := hx' j hj
      rw [hadd] at this
      exact this
end Go.Proofs.YthmjejmignangaaGreatDoor
