/- Layer 15: ops and fates that came in. -/
import Derived.Test.YtghhhlbpolhkhaaEU
import Derived.Test.YtghhhlbpolhkhaaEI
namespace Go.Proofs.Ytghhhlbpolhkhaa
set_option maxRecDepth 100000
open Go.ChangeShapes Go.WideShapes Go.ChangeAt Go.RowKit
/-- Ops lie there. -/
def OpsAt (w : World) (a : Option Addr) (L : List Opn) : Prop := L = [] ∨ ∃ b off, a = some ⟨b, off, none⟩ ∧ b < w.heap.size ∧ ∀ j (h : j < L.length), w.cell? ⟨b, off + j * 5, none⟩ = some (.int .i64 L[j].kd) ∧ w.cell? ⟨b, off + j * 5 + 1, none⟩ = some (.int .i64 L[j].nn) ∧ w.cell? ⟨b, off + j * 5 + 2, none⟩ = some (sv L[j].k) ∧ w.cell? ⟨b, off + j * 5 + 3, none⟩ = some (sv L[j].v) ∧ ∃ a n c, w.cell? ⟨b, off + j * 5 + 4, none⟩ = some (.slice a n c)
theorem OpsAt.at_ {w W : World} {a : Option Addr} {L : List Opn} (h : OpsAt w a L) (k : Below w.heap.size w W) (j : Nat) (hj : j < L.length) : ∃ b off, a = some ⟨b, off, none⟩ ∧ W.cell? ⟨b, off + j * 5, none⟩ = some (.int .i64 L[j].kd) ∧ W.cell? ⟨b, off + j * 5 + 1, none⟩ = some (.int .i64 L[j].nn) ∧ W.cell? ⟨b, off + j * 5 + 2, none⟩ = some (sv L[j].k) ∧ W.cell? ⟨b, off + j * 5 + 3, none⟩ = some (sv L[j].v) ∧ ∃ a n c, W.cell? ⟨b, off + j * 5 + 4, none⟩ = some (.slice a n c) := by
  rcases h with h | ⟨b, off, e, hb, h⟩
  · subst h; simp at hj
  · obtain ⟨x0, x1, x2, x3, ua, un, uc, x4⟩ := h j hj
    exact ⟨b, off, e, (k.cell (p := ⟨b, off + j * 5, none⟩) hb).trans (h j hj).1, (k.cell (p := ⟨b, off + j * 5 + 1, none⟩) hb).trans (h j hj).2.1, (k.cell (p := ⟨b, off + j * 5 + 2, none⟩) hb).trans (h j hj).2.2.1, (k.cell (p := ⟨b, off + j * 5 + 3, none⟩) hb).trans x3, ua, un, uc, (k.cell (p := ⟨b, off + j * 5 + 4, none⟩) hb).trans x4⟩
theorem open_fiveK {H : Type} {enc : TypeId × Value → H} {P : Program} {w : World} {base : Nat} {held : Bool} {t e : TypeId} {f0 f1 f2 f3 f4 : Field} {fuel : Nat} {cs : List Value} {x : DataW H × List MemPlace} (ht : P.underlying t = some (.slice e)) (he : P.underlying e = some (.struct #[f0, f1, f2, f3, f4]))
    (ce : P.cellsOf e = 5) (o0 : f0.offset = 0) (o1 : f1.offset = 1) (o2 : f2.offset = 2) (o3 : f3.offset = 3) (o4 : f4.offset = 4) (c0 : P.cellsOf f0.type = 1) (c1 : P.cellsOf f1.type = 1) (c2 : P.cellsOf f2.type = 1) (c3 : P.cellsOf f3.type = 1) (c4 : P.cellsOf f4.type = 1)
    (h : DataW.trod enc P w base (fun _ => true) held fuel t cs = some x) :
    (cs = [.slice none 0 0] ∧ x = (.nil, [])) ∨
    ∃ (a : Addr) (len cap n : Nat) (D : Nat → DataW H), cs = [.slice (some a) len cap] ∧ len ≤ cap ∧ cap ≤ maxLen ∧ x.1 = .slice ((List.range len).map D) ((List.range (cap - len)).map fun j => D (len + j)) ∧
      ∀ i, i < cap → ∃ v0 v1 v2 v3 v4 y0 y1 y2 y3 y4, w.cell? (a.add (i * 5)) = some v0 ∧ w.cell? (a.add (i * 5 + 1)) = some v1 ∧ w.cell? (a.add (i * 5 + 2)) = some v2 ∧ w.cell? (a.add (i * 5 + 3)) = some v3 ∧ w.cell? (a.add (i * 5 + 4)) = some v4 ∧
        DataW.trod enc P w base (fun _ => true) held n f0.type [v0] = some y0 ∧ DataW.trod enc P w base (fun _ => true) held n f1.type [v1] = some y1 ∧ DataW.trod enc P w base (fun _ => true) held n f2.type [v2] = some y2 ∧ DataW.trod enc P w base (fun _ => true) held n f3.type [v3] = some y3 ∧ DataW.trod enc P w base (fun _ => true) held n f4.type [v4] = some y4 := by
  rcases Go.Deep.open_slice ht h with h0 | ⟨a, len, cap, m, n, D, Pl, rfl, hb, hl, hm, hmm, rfl, hx⟩
  · exact Or.inl h0
  right
  simp only [if_true] at hmm
  subst hmm
  refine ⟨a, len, m, n - 1, D, rfl, hl, hm, rfl, fun i hi => ?_⟩
  obtain ⟨cs', h1, h2⟩ := hx i hi
  rw [ce] at h1
  obtain ⟨_, hlen, hcell⟩ := World.cells?_some h1
  obtain ⟨xs, k, hk, hxy, _, hxl, hf⟩ := DataW.trod_struct he h2
  have hk' : k = n - 1 := by omega
  subst hk'
  match xs, hxl, cs', hlen with
  | [y0, y1, y2, y3, y4], _, [v0, v1, v2, v3, v4], _ =>
    have g0 := hf 0 f0 rfl
    have g1 := hf 1 f1 rfl
    have g2 := hf 2 f2 rfl
    have g3 := hf 3 f3 rfl
    have g4 := hf 4 f4 rfl
    simp [o0, o1, o2, o3, o4, c0, c1, c2, c3, c4] at g0 g1 g2 g3 g4
    have e0 := hcell 0 (by omega)
    have e1 := hcell 1 (by omega)
    have e2 := hcell 2 (by omega)
    have e3 := hcell 3 (by omega)
    have e4 := hcell 4 (by omega)
    rw [Go.Deep.add_add] at e0 e1 e2 e3 e4
    exact ⟨v0, v1, v2, v3, v4, y0, y1, y2, y3, y4, by simpa using e0, by simpa using e1, by simpa using e2, by simpa using e3, by simpa using e4, g0, g1, g2, g3, g4⟩
/-- A slice of ops that came in. -/
theorem open_ops {H : Type} {enc : TypeId × Value → H} {W : World} {a0 : Option Addr} {len cap : Nat} {d0 : DataW H} {p0 : List MemPlace} (h : DataW.Trod enc Try.prog W 0 (fun _ => true) true 43 (.slice a0 len cap) d0 p0) :
    ∃ L : List Opn, L.length = len ∧ OpsAt W a0 L ∧ (∀ x ∈ L, x.ok) ∧ len ≤ maxLen := by
  obtain ⟨fuel, hf⟩ := h
  rcases open_fiveK Try.underlying43 Try.underlying24 (by kernel_rfl) rfl rfl rfl rfl rfl (by kernel_rfl) (by kernel_rfl) (by kernel_rfl) (by kernel_rfl) (by kernel_rfl) hf with ⟨hcs, hx⟩ | ⟨a, l', c, n, D, hcs, hl, hmx, hx, hr⟩
  · simp [Value.cells] at hcs
    obtain ⟨rfl, rfl, rfl⟩ := hcs
    exact ⟨[], rfl, .inl rfl, fun x h => by simp at h, by simp⟩
  · simp [Value.cells] at hcs
    obtain ⟨rfl, rfl, rfl⟩ := hcs
    simp only at hx
    have hlen : len ≤ maxLen := by omega
    have hadd : ∀ (b off k : Nat), (⟨b, off, none⟩ : Addr).add k = ⟨b, off + k, none⟩ := fun b off k => by unfold Addr.add; split <;> simp_all
    by_cases h0 : len = 0
    · subst h0
      exact ⟨[], rfl, .inl rfl, fun x h => by simp at h, by simp⟩
    obtain ⟨b, off, spot⟩ := a
    have hspot : spot = none := by
      obtain ⟨v0, _, _, _, _, _, _, _, _, _, q, _⟩ := hr 0 (by omega)
      simpa [Addr.add] using World.cell?_spot q
    subst hspot
    have hblk : b < W.heap.size := by
      obtain ⟨v0, _, _, _, _, _, _, _, _, _, q, _⟩ := hr 0 (by omega)
      rw [hadd] at q
      exact World.block_lt_of_cell? _ _ q
    have each : ∀ i, i < len → ∃ x : Opn, (W.cell? ⟨b, off + i * 5, none⟩ = some (.int .i64 x.kd) ∧ W.cell? ⟨b, off + i * 5 + 1, none⟩ = some (.int .i64 x.nn) ∧ W.cell? ⟨b, off + i * 5 + 2, none⟩ = some (sv x.k) ∧ W.cell? ⟨b, off + i * 5 + 3, none⟩ = some (sv x.v) ∧ ∃ a n c, W.cell? ⟨b, off + i * 5 + 4, none⟩ = some (.slice a n c)) ∧ x.ok := by
      intro i hi
      obtain ⟨v0, v1, v2, v3, v4, y0, y1, y2, y3, y4, q0, q1, q2, q3, q4, t0, t1, t2, t3, t4⟩ := hr i (by omega)
      rw [hadd] at q0 q1 q2 q3 q4
      obtain ⟨n0, e0, _, w0⟩ := DataW.trod_int Try.underlying3 t0
      obtain ⟨n1, e1, _, w1⟩ := DataW.trod_int Try.underlying3 t1
      obtain ⟨s2, e2, _, w2⟩ := DataW.trod_string Try.underlying9 t2
      obtain ⟨s3, e3, _, w3⟩ := DataW.trod_string Try.underlying9 t3
      simp only [List.cons.injEq, and_true] at e0 e1 e2 e3
      subst e0 e1 e2 e3
      have e4 : ∃ (a : Option Addr) (n c : Nat), v4 = .slice a n c := by
        rcases Go.Deep.open_slice Try.underlying22 t4 with ⟨x, _⟩ | ⟨a, len, cap, m, n, D, Pl, x, _⟩
        · simp only [List.cons.injEq, and_true] at x; exact ⟨_, _, _, x⟩
        · simp only [List.cons.injEq, and_true] at x; exact ⟨_, _, _, x⟩
      obtain ⟨ua, un, uc, rfl⟩ := e4
      obtain ⟨⟨l2⟩⟩ := s2
      obtain ⟨⟨l3⟩⟩ := s3
      exact ⟨⟨n0, n1, l2, l3⟩, ⟨q0, q1, q2, q3, ua, un, uc, q4⟩, int_wfK w0, int_wfK w1, w2, w3⟩
    haveI : Inhabited Opn := ⟨⟨0, 0, [], []⟩⟩
    obtain ⟨x, hx'⟩ := Go.Deep.choose_lt each
    refine ⟨(List.range len).map x, by simp, .inr ⟨b, off, rfl, hblk, fun j hj => ?_⟩, fun y hy => ?_, hlen⟩
    · simp only [List.length_map, List.length_range] at hj
      simp only [List.getElem_map, List.getElem_range]
      exact (hx' j hj).1
    · obtain ⟨j, hj, rfl⟩ := List.mem_map.1 hy
      exact (hx' j (List.mem_range.1 hj)).2
/-- Fates that came in. -/
theorem open_fates {H : Type} {enc : TypeId × Value → H} {W : World} {a0 : Option Addr} {len cap : Nat} {d0 : DataW H} {p0 : List MemPlace} (h : DataW.Trod enc Try.prog W 0 (fun _ => true) true 22 (.slice a0 len cap) d0 p0)
    {ts : List TypeId} {ds : List (DataW H)} (hsz : (DataW.weightsEach Try.prog ts ds).all (· ≤ reachBytes) = true) {j : Nat} (ht : ts[j]? = some 22) (hd : ds[j]? = some d0) :
    ∃ ns : List Int, FatO (fun i => ¬ i < W.heap.size) W (.slice a0 len cap) ns := by
  obtain ⟨fuel, hf⟩ := h
  simp [Value.cells] at hf
  rcases Go.Deep.open_slice Try.underlying22 hf with ⟨hcs, hx⟩ | ⟨a, l, c, m, n, D, Pl, hcs, hb, hl, hm, hmm, hx, hr⟩
  · simp only [List.cons.injEq, and_true, Value.slice.injEq] at hcs
    obtain ⟨rfl, rfl, rfl⟩ := hcs
    exact ⟨[], none, 0, rfl, Nat.zero_le _, by omega, .inl rfl⟩
  · simp only [List.cons.injEq, and_true, Value.slice.injEq] at hcs
    obtain ⟨rfl, rfl, rfl⟩ := hcs
    simp only [if_true] at hmm
    subst hmm
    injection hx with hx _
    have hcap : m ≤ 4611686018427387904 := by
      rw [hx] at hd
      have := sized_slice hsz ht hd Try.underlying22
      rw [show Try.prog.bytesOf 3 = 8 by kernel_rfl] at this
      simp only [List.length_map, List.length_range] at this
      have h2 : reachBytes = 140737488351232 := rfl
      rw [h2] at this
      omega
    by_cases h0 : len = 0
    · subst h0
      exact ⟨[], _, _, rfl, Nat.zero_le _, hcap, .inl rfl⟩
    have hadd : ∀ (b off k : Nat), (⟨b, off, none⟩ : Addr).add k = ⟨b, off + k, none⟩ := fun b off k => by unfold Addr.add; split <;> simp_all
    have each : ∀ i, i < len → ∃ x : Int, W.cell? (a.add i) = some (.int .i64 x) := by
      intro i hi
      obtain ⟨cs', h1, h2⟩ := hr i (by omega)
      rw [show Try.prog.cellsOf 3 = 1 by kernel_rfl] at h1
      obtain ⟨_, hlen, hcell⟩ := World.cells?_some h1
      match cs', hlen with
      | [v0], _ =>
        obtain ⟨n0, e0, _, w0⟩ := DataW.trod_int Try.underlying3 h2
        simp only [List.cons.injEq, and_true] at e0
        subst e0
        have := hcell 0 (by omega)
        rw [Go.Deep.add_add] at this
        exact ⟨n0, by simpa using this⟩
    obtain ⟨x, hx'⟩ := Go.Deep.choose_lt each
    obtain ⟨b, off, spot⟩ := a
    have hspot : spot = none := by
      have q := hx' 0 (by omega)
      simpa [Addr.add] using World.cell?_spot q
    subst hspot
    refine ⟨(List.range len).map x, some ⟨b, off, none⟩, m, by simp, by simpa using hl, hcap, .inr ⟨b, off, rfl, ?_, fun j hj => ?_⟩⟩
    · have q := hx' 0 (by omega)
      rw [hadd] at q
      exact fun z => z (World.block_lt_of_cell? _ _ q)
    · simp only [List.length_map, List.length_range] at hj
      simp only [List.getElem_map, List.getElem_range]
      have := hx' j hj
      rw [hadd] at this
      exact this
end Go.Proofs.Ytghhhlbpolhkhaa
