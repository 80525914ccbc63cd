/- Layer 17: logs, records, messages that came in. -/
import Derived.Test.YtmaecpmdikdclaaMX
import Derived.Test.YtmaecpmdikdclaaLBg17
namespace Go.Proofs.Ytmaecpmdikdclaa
set_option maxRecDepth 100000
open Go.ChangeShapes Go.WideShapes Go.ChangeAt Go.RowKit
section
variable {H : Type} {enc : TypeId × Value → H} {w : World} {m0 : Nat}
theorem open_es {fuel : Nat} {v : Value} {x : DataW H × List MemPlace} (h : DataW.trod enc Try.prog w 0 (fun _ => true) true fuel 22 [v] = some x) (hs : Sz m0 Try.prog 22 x.1) :
    ∃ L : List Ent, (∃ a c, v = .slice a L.length c ∧ EsAt w.cell? a L) ∧ L.length ≤ 5864062014805 ∧ ∀ x ∈ L, x.d.length ≤ 9223372036854775807 := by
  have be : Try.prog.bytesOf 114 = 24 := by kernel_rfl
  have ce : Try.prog.cellsOf 114 = 2 := by kernel_rfl
  have ci : Try.prog.cellsOf 3 = 1 := by kernel_rfl
  have cs' : Try.prog.cellsOf 9 = 1 := by kernel_rfl
  obtain ⟨a0, len, cap, rfl, hl, hm0, hr⟩ := open_el Try.underlying22 (by rw [ce]; omega) h hs
  rw [be, reach_num] at hl
  rcases hr with rfl | ⟨b, off, rfl, hr⟩
  · exact ⟨[], ⟨a0, cap, rfl, .inl rfl⟩, by simp, fun x h => by simp at h⟩
  have each : ∀ i, i < len → ∃ z : Ent, (w.cell? ⟨b, off + i * 2, none⟩ = some (.int .i64 z.v) ∧ w.cell? ⟨b, off + i * 2 + 1, none⟩ = some (.string ⟨z.d.toArray⟩)) ∧ z.d.length ≤ 9223372036854775807 := fun i hi => by
    obtain ⟨cs, y, n, hc, hcell, ht, _⟩ := hr i hi
    rw [ce] at hcell hc
    obtain ⟨y0, y1, m, _, _, h0, h1⟩ := trod_struct2 Try.underlying114 ht
    match cs, hc with
    | [c0, c1], _ =>
      simp [ci, cs'] at h0 h1
      obtain ⟨z0, e0, _, _⟩ := DataW.trod_int Try.underlying3 h0
      obtain ⟨z1, e1, _, hw⟩ := DataW.trod_string Try.underlying9 h1
      simp only [List.cons.injEq, and_true] at e0 e1
      subst e0 e1
      obtain ⟨⟨l⟩⟩ := z1
      exact ⟨⟨z0, l⟩, ⟨by simpa using hcell 0 (by omega), by have := hcell 1 (by omega); rw [← Nat.add_assoc] at this; simpa using this⟩, hw⟩
  haveI : Inhabited Ent := ⟨⟨0, []⟩⟩
  obtain ⟨z, hz⟩ := Go.Deep.choose_lt each
  refine ⟨(List.range len).map z, ⟨some ⟨b, off, none⟩, cap, by simp, .inr ⟨b, off, rfl, fun j hj => ?_⟩⟩, by simp; omega, fun x hx => ?_⟩
  · simp only [List.length_map, List.length_range] at hj
    simp only [List.getElem_map, List.getElem_range]
    exact (hz j hj).1
  · obtain ⟨j, hj, rfl⟩ := List.mem_map.1 hx
    exact (hz j (List.mem_range.1 hj)).2
theorem open_rcells {fuel : Nat} {cs : List Value} {x : DataW H × List MemPlace} (h : DataW.trod enc Try.prog w 0 (fun _ => true) true fuel 48 cs = some x) (hs : Sz m0 Try.prog 48 x.1) :
    ∃ (r : Rec17) (a : Option Addr) (c : Nat), cs = [.int .i64 r.kd, .int .i64 r.vw, .int .i64 r.nm, .int .i64 r.op, .slice a r.log.length c] ∧ RIs w.cell? r a r.log.length ∧ r.log.length ≤ 5864062014805 := by
  have ce : Try.prog.cellsOf 48 = 5 := by kernel_rfl
  have ci : Try.prog.cellsOf 3 = 1 := by kernel_rfl
  have cl : Try.prog.cellsOf 22 = 1 := by kernel_rfl
  obtain ⟨xs, n, _, rfl, hcl, hlen, hf⟩ := DataW.trod_struct Try.underlying48 h
  rw [ce] at hcl
  match xs, hlen, cs, hcl with
  | [y0, y1, y2, y3, y4], _, [v0, v1, v2, v3, v4], _ =>
    have g0 := hf 0 _ rfl
    have g1 := hf 1 _ rfl
    have g2 := hf 2 _ rfl
    have g3 := hf 3 _ rfl
    have g4 := hf 4 _ rfl
    simp [ci, cl] at g0 g1 g2 g3 g4
    obtain ⟨n0, e0, _, _⟩ := DataW.trod_int Try.underlying3 g0
    obtain ⟨n1, e1, _, _⟩ := DataW.trod_int Try.underlying3 g1
    obtain ⟨n2, e2, _, _⟩ := DataW.trod_int Try.underlying3 g2
    obtain ⟨n3, e3, _, _⟩ := DataW.trod_int Try.underlying3 g3
    simp only [List.cons.injEq, and_true] at e0 e1 e2 e3
    subst e0 e1 e2 e3
    obtain ⟨L, ⟨a, c, rfl, hE⟩, hl, hsm⟩ := open_es g4 (hs.part Try.underlying48 4 rfl rfl)
    exact ⟨⟨n0, n1, n2, n3, L⟩, a, c, rfl, ⟨rfl, hE, hsm, Nat.le_trans hl (by decide)⟩, hl⟩
theorem open_rs {fuel : Nat} {v : Value} {x : DataW H × List MemPlace} (h : DataW.trod enc Try.prog w 0 (fun _ => true) true fuel 62 [v] = some x) (hs : Sz m0 Try.prog 62 x.1) :
    ∃ R : List Rec17, (∃ a c, v = .slice a R.length c ∧ RsAt17 w.cell? a R) ∧ Fair R := by
  have be : Try.prog.bytesOf 48 = 56 := by kernel_rfl
  have ce : Try.prog.cellsOf 48 = 5 := by kernel_rfl
  obtain ⟨a0, len, cap, rfl, hl, hm0, hr⟩ := open_el Try.underlying62 (by rw [ce]; omega) h hs
  rw [be, reach_num] at hl
  rcases hr with rfl | ⟨b, off, rfl, hr⟩
  · exact ⟨[], ⟨a0, cap, rfl, .inl rfl⟩, by simp, fun x h => by simp at h⟩
  have each : ∀ i, i < len → ∃ r : Rec17, (w.cell? ⟨b, off + i * 5, none⟩ = some (.int .i64 r.kd) ∧ w.cell? ⟨b, off + i * 5 + 1, none⟩ = some (.int .i64 r.vw) ∧ w.cell? ⟨b, off + i * 5 + 2, none⟩ = some (.int .i64 r.nm) ∧ w.cell? ⟨b, off + i * 5 + 3, none⟩ = some (.int .i64 r.op) ∧ ∃ a c, w.cell? ⟨b, off + i * 5 + 4, none⟩ = some (.slice a r.log.length c) ∧ RIs w.cell? r a r.log.length) ∧ r.log.length ≤ 5864062014805 := fun i hi => by
    obtain ⟨cs, y, n, hc, hcell, ht, hsz⟩ := hr i hi
    rw [ce] at hcell hc
    obtain ⟨r, a, c, rfl, hI, hl2⟩ := open_rcells ht hsz
    exact ⟨r, ⟨by simpa using hcell 0 (by omega), by have := hcell 1 (by omega); rw [← Nat.add_assoc] at this; simpa using this, by have := hcell 2 (by omega); rw [← Nat.add_assoc] at this; simpa using this, by have := hcell 3 (by omega); rw [← Nat.add_assoc] at this; simpa using this, a, c, by have := hcell 4 (by omega); rw [← Nat.add_assoc] at this; simpa using this, hI⟩, hl2⟩
  haveI : Inhabited Rec17 := ⟨⟨0, 0, 0, 0, []⟩⟩
  obtain ⟨z, hz⟩ := Go.Deep.choose_lt each
  refine ⟨(List.range len).map z, ⟨some ⟨b, off, none⟩, cap, by simp, .inr ⟨b, off, rfl, fun j hj => ?_⟩⟩, by simp; omega, fun x hx => ?_⟩
  · simp only [List.length_map, List.length_range] at hj
    simp only [List.getElem_map, List.getElem_range]
    exact (hz j hj).1
  · obtain ⟨j, hj, rfl⟩ := List.mem_map.1 hx
    have := hz j (List.mem_range.1 hj)
    obtain ⟨⟨_, _, _, _, _, _, _, hI⟩, hl2⟩ := this
    exact ⟨hI.sm, hl2⟩
/-- Records that came in. -/
theorem open_recs17 {a0 : Option Addr} {len cap : Nat} {d0 : DataW H} {p0 : List MemPlace} (h : DataW.Trod enc Try.prog w 0 (fun _ => true) true 62 (.slice a0 len cap) d0 p0)
    {ts : List TypeId} {ds : List (DataW H)} (hsz : (DataW.weightsEach Try.prog ts ds).all (· ≤ reachBytes) = true) {j : Nat} (ht : ts[j]? = some 62) (hd : ds[j]? = some d0) :
    ∃ R : List Rec17, R.length = len ∧ RsAt17 w.cell? a0 R ∧ Fair R ∧ len ≤ cap := by
  obtain ⟨fuel, hf⟩ := h
  have hf' : DataW.trod enc Try.prog w 0 (fun _ => true) true fuel 62 [.slice a0 len cap] = some (d0, p0) := by simpa [Value.cells] using hf
  have hS : Sz (Rows.uptoBulk d0) Try.prog 62 d0 := ⟨fun k hk => by simpa using List.all_eq_true.1 hsz k (weightsEach_mem ht hd hk), Nat.le_refl _⟩
  obtain ⟨R, ⟨a, c, e, hR⟩, hF⟩ := open_rs hf' hS
  injection e with e1 e2 e3
  subst e1 e2 e3
  refine ⟨R, rfl, hR, hF, ?_⟩
  rcases Go.Deep.open_slice Try.underlying62 hf' with ⟨hcs, _⟩ | ⟨a, l, c, m, n, D, Pl, hcs, hb, hl, _⟩
  · simp only [List.cons.injEq, and_true, Value.slice.injEq] at hcs
    omega
  · simp only [List.cons.injEq, and_true, Value.slice.injEq] at hcs
    omega
end
end Go.Proofs.Ytmaecpmdikdclaa
