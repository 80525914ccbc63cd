/- Layer 16: what the cards share: steps that came in. -/
import Derived.Test.YthmjejmignangaaGreatDoorJCE
import Derived.Test.YthmjejmignangaaGreatDoorLLa16
namespace Go.Proofs.YthmjejmignangaaGreatDoor
set_option maxRecDepth 100000
open Go.ChangeShapes Go.WideShapes Go.ChangeAt Go.RowKit
/-- A slice of one cell an element, opened at each place that it has room for. -/
theorem open_cap {H : Type} {enc : TypeId × Value → H} {P : Program} {w : World} {t e : TypeId} {fuel : Nat} {v : Value} {m0 : Nat} {x : DataW H × List MemPlace} (ht : P.underlying t = some (.slice e)) (h1c : P.cellsOf e = 1) (h : DataW.trod enc P w 0 (fun _ => true) true fuel t [v] = some x) (hs : Sz m0 P t x.1) :
    ∃ a0 len cap, v = .slice a0 len cap ∧ len ≤ cap ∧ cap ≤ maxLen ∧ cap * P.bytesOf e ≤ reachBytes ∧ ((len = 0 ∧ cap = 0) ∨ ∃ b off, a0 = some ⟨b, off, none⟩ ∧ b < w.heap.size ∧ ∀ i, i < cap → ∃ u y n, w.cell? ⟨b, off + i, none⟩ = some u ∧ DataW.trod enc P w 0 (fun _ => true) true n e [u] = some y) := by
  rcases Go.Deep.open_slice ht h with ⟨hcs, hx⟩ | ⟨a, len, cap, m, n, D, Pl, hcs, hb, hl, hm, hmm, rfl, hx⟩
  · simp only [List.cons.injEq, and_true] at hcs
    exact ⟨none, 0, 0, hcs, Nat.le_refl _, Nat.zero_le _, by simp, .inl ⟨rfl, rfl⟩⟩
  · simp only [List.cons.injEq, and_true] at hcs
    simp only [if_true] at hmm
    subst hmm
    have hw : ∀ k ∈ ((List.range len).map D).length + ((List.range (m - len)).map fun j => D (len + j)).length |> fun z => (z * P.bytesOf e :: (DataW.weightsAll P e ((List.range len).map D) ++ DataW.weightsAll P e ((List.range (m - len)).map fun j => D (len + j)))), k ≤ reachBytes := by
      intro k hk
      refine hs.1 k ?_
      unfold DataW.weights
      rw [ht]
      exact hk
    refine ⟨some a, len, m, hcs, hl, hm, ?_, ?_⟩
    · have := hw _ (List.mem_cons_self ..)
      simp only [List.length_map, List.length_range] at this
      exact Nat.le_trans (Nat.mul_le_mul_right _ (by omega)) this
    · by_cases h0 : m = 0
      · exact .inl ⟨by omega, h0⟩
      right
      obtain ⟨b, off, spot⟩ := a
      have hadd : ∀ (b off k : Nat), (⟨b, off, none⟩ : Addr).add k = ⟨b, off + k, none⟩ := fun b off k => by unfold Addr.add; split <;> simp_all
      have one : ∀ i, i < m → ∃ u y n, w.cell? ((⟨b, off, spot⟩ : Addr).add i) = some u ∧ DataW.trod enc P w 0 (fun _ => true) true n e [u] = some y := fun i hi => by
        obtain ⟨cs', h1, h2⟩ := hx i hi
        rw [h1c] at h1
        obtain ⟨_, hlen, hcell⟩ := World.cells?_some h1
        match cs', hlen with
        | [u], _ =>
          have := hcell 0 (by omega)
          rw [Go.Deep.add_add] at this
          exact ⟨u, _, n, by simpa using this, h2⟩
      have hspot : spot = none := by
        obtain ⟨u, _, _, h1, _⟩ := one 0 (by omega)
        simpa [Addr.add] using World.cell?_spot h1
      subst hspot
      have hblk : b < w.heap.size := by
        obtain ⟨u, _, _, h1, _⟩ := one 0 (by omega)
        rw [hadd] at h1
        exact World.block_lt_of_cell? _ _ h1
      refine ⟨b, off, rfl, hblk, fun i hi => ?_⟩
      obtain ⟨u, y, n', h1, h2⟩ := one i hi
      rw [hadd] at h1
      exact ⟨u, y, n', h1, h2⟩
section
variable {H : Type} {enc : TypeId × Value → H} {w : World} {m0 : Nat}
theorem open_b8 {fuel : Nat} {v : Value} {x : DataW H × List MemPlace} (h : DataW.trod enc Tryz.prog w 0 (fun _ => true) true fuel 29 [v] = some x) (hs : Sz m0 Tryz.prog 29 x.1) :
    ∃ a n c b, v = .slice a n c ∧ BsX w a n c b ∧ c ≤ 9223372036854775807 := by
  have ce : Tryz.prog.cellsOf 5 = 1 := by kernel_rfl
  obtain ⟨a0, len, cap, rfl, hl, hm, _, hr⟩ := open_cap Tryz.underlying29 ce h hs
  rcases hr with ⟨h0, h1⟩ | ⟨b, off, rfl, hb, hr⟩
  · exact ⟨a0, len, cap, [], rfl, ⟨h0.symm, .inl ⟨h0, h1⟩⟩, hm⟩
  have each : ∀ i, i < len → ∃ z : UInt8, w.cell? ⟨b, off + i, none⟩ = some (.int .u8 (z.toNat : Int)) := fun i hi => by
    obtain ⟨u, y, n, hc, ht⟩ := hr i (by omega)
    obtain ⟨z, e, _, hw⟩ := DataW.trod_int Tryz.underlying5 ht
    simp only [List.cons.injEq, and_true] at e
    subst e
    have := byte_wf16 hw
    exact ⟨UInt8.ofNat z.toNat, by rw [hc, UInt8.toNat_ofNat']; congr 2; omega⟩
  obtain ⟨z, hz⟩ := Go.Deep.choose_lt each
  refine ⟨_, len, cap, (List.range len).map z, rfl, ⟨by simp, .inr ⟨b, off, rfl, hl, hb, fun j hj => ?_⟩⟩, hm⟩
  simp only [List.length_map, List.length_range] at hj
  simp only [List.getElem_map, List.getElem_range]
  exact hz j hj
theorem open_fa {fuel : Nat} {v : Value} {x : DataW H × List MemPlace} (h : DataW.trod enc Tryz.prog w 0 (fun _ => true) true fuel 58 [v] = some x) (hs : Sz m0 Tryz.prog 58 x.1) :
    ∃ a n c l, v = .slice a n c ∧ FatO (fun i => ¬ i < w.heap.size) w (.slice a n c) l := by
  have ce : Tryz.prog.cellsOf 3 = 1 := by kernel_rfl
  have be : Tryz.prog.bytesOf 3 = 8 := by kernel_rfl
  obtain ⟨a0, len, cap, rfl, hl, hm, hc8, hr⟩ := open_cap Tryz.underlying58 ce h hs
  rw [be] at hc8
  have h2 : reachBytes = 140737488351232 := rfl
  rw [h2] at hc8
  rcases hr with ⟨h0, h1⟩ | ⟨b, off, rfl, hb, hr⟩
  · exact ⟨a0, len, cap, [], rfl, a0, cap, by rw [h0]; rfl, Nat.zero_le _, by omega, .inl rfl⟩
  have each : ∀ i, i < len → ∃ z : Int, w.cell? ⟨b, off + i, none⟩ = some (.int .i64 z) := fun i hi => by
    obtain ⟨u, y, n, hc, ht⟩ := hr i (by omega)
    obtain ⟨z, e, _, hw⟩ := DataW.trod_int Tryz.underlying3 ht
    simp only [List.cons.injEq, and_true] at e
    subst e
    exact ⟨z, hc⟩
  obtain ⟨z, hz⟩ := Go.Deep.choose_lt each
  refine ⟨_, len, cap, (List.range len).map z, rfl, some ⟨b, off, none⟩, cap, by simp, by simpa using hl, by omega, .inr ⟨b, off, rfl, fun x => x hb, fun j hj => ?_⟩⟩
  simp only [List.length_map, List.length_range] at hj
  simp only [List.getElem_map, List.getElem_range]
  exact hz j hj
end
/-- Steps that came in. -/
theorem open_steps16 {H : Type} {enc : TypeId × Value → H} {w : World} {a0 : Option Addr} {len cap : Nat} {d0 : DataW H} {p0 : List MemPlace} (h : DataW.Trod enc Tryz.prog w 0 (fun _ => true) true 52 (.slice a0 len cap) d0 p0)
    {ts : List TypeId} {ds : List (DataW H)} (hsz : (DataW.weightsEach Tryz.prog ts ds).all (· ≤ reachBytes) = true) {j : Nat} (ht : ts[j]? = some 52) (hd : ds[j]? = some d0) :
    StepsAt w a0 len ∧ len ≤ 9223372036854775807 := by
  obtain ⟨fuel, hf⟩ := h
  have hf' : DataW.trod enc Tryz.prog w 0 (fun _ => true) true fuel 52 [.slice a0 len cap] = some (d0, p0) := by simpa [Value.cells] using hf
  have hS : Sz (Rows.uptoBulk d0) Tryz.prog 52 d0 := ⟨fun k hk => by simpa using List.all_eq_true.1 hsz k (weightsEach_mem ht hd hk), Nat.le_refl _⟩
  have be : Tryz.prog.bytesOf 60 = 64 := by kernel_rfl
  have ce : Tryz.prog.cellsOf 60 = 4 := by kernel_rfl
  have ci : Tryz.prog.cellsOf 3 = 1 := by kernel_rfl
  have cb : Tryz.prog.cellsOf 29 = 1 := by kernel_rfl
  have cn : Tryz.prog.cellsOf 58 = 1 := by kernel_rfl
  obtain ⟨a1, len1, cap1, e, hl, hm0, hr⟩ := open_el Tryz.underlying52 (by rw [ce]; omega) hf' hS
  injection e with e1 e2 e3
  subst e1 e2 e3
  rw [be, reach_num] at hl
  refine ⟨fun i hi => ?_, by omega⟩
  rcases hr with h0 | ⟨b, off, rfl, hr⟩
  · omega
  obtain ⟨cs, y, n, hc, hcell, htr, hsz2⟩ := hr i hi
  rw [ce] at hcell hc
  obtain ⟨xs, n', _, rfl, hcl, hlen, hf⟩ := DataW.trod_struct Tryz.underlying60 htr
  match xs, hlen, cs, hc with
  | [y0, y1, y2, y3], _, [v0, v1, v2, v3], _ =>
    have g0 := hf 0 _ rfl
    have g1 := hf 1 _ rfl
    have g2 := hf 2 _ rfl
    have g3 := hf 3 _ rfl
    simp [ci, cb, cn] at g0 g1 g2 g3
    obtain ⟨n0, e0, _, _⟩ := DataW.trod_int Tryz.underlying3 g0
    obtain ⟨n1, e1, _, _⟩ := DataW.trod_int Tryz.underlying3 g1
    simp only [List.cons.injEq, and_true] at e0 e1
    subst e0 e1
    obtain ⟨ba, bn, bc, bb, rfl, hB, hbc⟩ := open_b8 g2 (hsz2.part Tryz.underlying60 2 rfl rfl)
    obtain ⟨fa, fn, fc, l, rfl, hF⟩ := open_fa g3 (hsz2.part Tryz.underlying60 3 rfl rfl)
    have c0 : w.cell? ⟨b, off + i * 4, none⟩ = some (.int .i64 n0) := by simpa using hcell 0 (by omega)
    have c1 : w.cell? ⟨b, off + i * 4 + 1, none⟩ = some (.int .i64 n1) := by have := hcell 1 (by omega); rw [← Nat.add_assoc] at this; simpa using this
    have c2 : w.cell? ⟨b, off + i * 4 + 2, none⟩ = some (.slice ba bn bc) := by have := hcell 2 (by omega); rw [← Nat.add_assoc] at this; simpa using this
    have c3 : w.cell? ⟨b, off + i * 4 + 3, none⟩ = some (.slice fa fn fc) := by have := hcell 3 (by omega); rw [← Nat.add_assoc] at this; simpa using this
    exact ⟨b, off, rfl, World.block_lt_of_cell? _ _ c0, n0, n1, ba, bn, bc, bb, fa, fn, fc, l, c0, c1, c2, c3, hB, hbc, hF⟩
end Go.Proofs.YthmjejmignangaaGreatDoor
