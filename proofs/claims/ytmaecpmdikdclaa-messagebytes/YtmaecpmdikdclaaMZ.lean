/- Layer 17: one message, one record that came in. -/
import Derived.Test.YtmaecpmdikdclaaMY
import Derived.Test.YtmaecpmdikdclaaMT
namespace Go.Proofs.Ytmaecpmdikdclaa
set_option maxRecDepth 100000
open Go.ChangeShapes Go.WideShapes Go.ChangeAt Go.RowKit
section
variable {H : Type} {enc : TypeId × Value → H} {w : World} {m0 : Nat}
theorem open_mcells {fuel : Nat} {cs : List Value} {x : DataW H × List MemPlace} (h : DataW.trod enc Try.prog w 0 (fun _ => true) true fuel 24 cs = some x) (hs : Sz m0 Try.prog 24 x.1) :
    ∃ (r : Msg) (a : Option Addr) (c : Nat), cs = [.int .i64 r.kd, .int .i64 r.fr, .int .i64 r.tt, .int .i64 r.vw, .int .i64 r.op, .int .i64 r.cm, .int .i64 r.nm, .slice a r.log.length c] ∧ EsAt w.cell? a r.log ∧ (∀ x ∈ r.log, x.d.length ≤ 9223372036854775807) ∧ r.log.length ≤ 5864062014805 := by
  have ce : Try.prog.cellsOf 24 = 8 := by kernel_rfl
  have ci : Try.prog.cellsOf 3 = 1 := by kernel_rfl
  have cl : Try.prog.cellsOf 22 = 1 := by kernel_rfl
  obtain ⟨xs, n, _, rfl, hcl, hlen, hf⟩ := DataW.trod_struct Try.underlying24 h
  rw [ce] at hcl
  match xs, hlen, cs, hcl with
  | [y0, y1, y2, y3, y4, y5, y6, y7], _, [v0, v1, v2, v3, v4, v5, v6, v7], _ =>
    have g0 := hf 0 _ rfl
    have g1 := hf 1 _ rfl
    have g2 := hf 2 _ rfl
    have g3 := hf 3 _ rfl
    have g4 := hf 4 _ rfl
    have g5 := hf 5 _ rfl
    have g6 := hf 6 _ rfl
    have g7 := hf 7 _ rfl
    simp [ci, cl] at g0 g1 g2 g3 g4 g5 g6 g7
    obtain ⟨n0, e0, _, _⟩ := DataW.trod_int Try.underlying3 g0
    obtain ⟨n1, e1, _, _⟩ := DataW.trod_int Try.underlying3 g1
    obtain ⟨n2, e2, _, _⟩ := DataW.trod_int Try.underlying3 g2
    obtain ⟨n3, e3, _, _⟩ := DataW.trod_int Try.underlying3 g3
    obtain ⟨n4, e4, _, _⟩ := DataW.trod_int Try.underlying3 g4
    obtain ⟨n5, e5, _, _⟩ := DataW.trod_int Try.underlying3 g5
    obtain ⟨n6, e6, _, _⟩ := DataW.trod_int Try.underlying3 g6
    simp only [List.cons.injEq, and_true] at e0 e1 e2 e3 e4 e5 e6
    subst e0 e1 e2 e3 e4 e5 e6
    obtain ⟨L, ⟨a, c, rfl, hE⟩, hl, hsm⟩ := open_es g7 (hs.part Try.underlying24 7 rfl rfl)
    exact ⟨⟨n0, n1, n2, n3, n4, n5, n6, L⟩, a, c, rfl, hE, hsm, hl⟩
theorem open_rcells2 {fuel : Nat} {cs : List Value} {x : DataW H × List MemPlace} (h : DataW.trod enc Try.prog w 0 (fun _ => true) true fuel 48 cs = some x) (hs : Sz m0 Try.prog 48 x.1) :
    ∃ (r : Rec17) (a : Option Addr) (c : Nat), cs = [.int .i64 r.kd, .int .i64 r.vw, .int .i64 r.nm, .int .i64 r.op, .slice a r.log.length c] ∧ EsAt w.cell? a r.log ∧ (∀ x ∈ r.log, x.d.length ≤ 9223372036854775807) ∧ r.log.length ≤ 5864062014805 := by
  have ce : Try.prog.cellsOf 48 = 5 := by kernel_rfl
  have ci : Try.prog.cellsOf 3 = 1 := by kernel_rfl
  have cl : Try.prog.cellsOf 22 = 1 := by kernel_rfl
  obtain ⟨xs, n, _, rfl, hcl, hlen, hf⟩ := DataW.trod_struct Try.underlying48 h
  rw [ce] at hcl
  match xs, hlen, cs, hcl with
  | [y0, y1, y2, y3, y4], _, [v0, v1, v2, v3, v4], _ =>
    have g0 := hf 0 _ rfl
    have g1 := hf 1 _ rfl
    have g2 := hf 2 _ rfl
    have g3 := hf 3 _ rfl
    have g4 := hf 4 _ rfl
    simp [ci, cl] at g0 g1 g2 g3 g4
    obtain ⟨n0, e0, _, _⟩ := DataW.trod_int Try.underlying3 g0
    obtain ⟨n1, e1, _, _⟩ := DataW.trod_int Try.underlying3 g1
    obtain ⟨n2, e2, _, _⟩ := DataW.trod_int Try.underlying3 g2
    obtain ⟨n3, e3, _, _⟩ := DataW.trod_int Try.underlying3 g3
    simp only [List.cons.injEq, and_true] at e0 e1 e2 e3
    subst e0 e1 e2 e3
    obtain ⟨L, ⟨a, c, rfl, hE⟩, hl, hsm⟩ := open_es g4 (hs.part Try.underlying48 4 rfl rfl)
    exact ⟨⟨n0, n1, n2, n3, L⟩, a, c, rfl, hE, hsm, hl⟩
theorem open_msg17 {r : Reach} {b0 : Nat} {v : Value} {d0 : DataW H} {p0 : List MemPlace} (hval : Value.okWide Try.prog w r b0 24 v) (h : DataW.Trod enc Try.prog w 0 (fun _ => true) true 24 v d0 p0)
    {ts : List TypeId} {ds : List (DataW H)} (hsz : (DataW.weightsEach Try.prog ts ds).all (· ≤ reachBytes) = true) {j : Nat} (ht : ts[j]? = some 24) (hd : ds[j]? = some d0) :
    ∃ (x : Msg) (a : Option Addr) (n c : Nat), v = msgV x.kd x.fr x.tt x.vw x.op x.cm x.nm (.slice a n c) ∧ x.log.length = n ∧ EsAt w.cell? a x.log ∧ FairL x.log := by
  have hS : Sz (Rows.uptoBulk d0) Try.prog 24 d0 := ⟨fun k hk => by simpa using List.all_eq_true.1 hsz k (weightsEach_mem ht hd hk), Nat.le_refl _⟩
  obtain ⟨cs, rfl, hcs⟩ := okWide_struct Try.underlying24 hval
  obtain ⟨fuel, hf⟩ := h
  obtain ⟨x, a, c, e, hE, h1, h2⟩ := open_mcells (cs := cs.toList) (by simpa [Value.cells] using hf) hS
  exact ⟨x, a, _, c, by rw [show cs = cs.toList.toArray from by simp, e], rfl, hE, h1, h2⟩
theorem open_rec17 {r : Reach} {b0 : Nat} {v : Value} {d0 : DataW H} {p0 : List MemPlace} (hval : Value.okWide Try.prog w r b0 48 v) (h : DataW.Trod enc Try.prog w 0 (fun _ => true) true 48 v d0 p0)
    {ts : List TypeId} {ds : List (DataW H)} (hsz : (DataW.weightsEach Try.prog ts ds).all (· ≤ reachBytes) = true) {j : Nat} (ht : ts[j]? = some 48) (hd : ds[j]? = some d0) :
    ∃ (x : Rec17) (a : Option Addr) (n c : Nat), v = recV x.kd x.vw x.nm x.op (.slice a n c) ∧ x.log.length = n ∧ EsAt w.cell? a x.log ∧ FairL x.log := by
  have hS : Sz (Rows.uptoBulk d0) Try.prog 48 d0 := ⟨fun k hk => by simpa using List.all_eq_true.1 hsz k (weightsEach_mem ht hd hk), Nat.le_refl _⟩
  obtain ⟨cs, rfl, hcs⟩ := okWide_struct Try.underlying48 hval
  obtain ⟨fuel, hf⟩ := h
  obtain ⟨x, a, c, e, hE, h1, h2⟩ := open_rcells2 (cs := cs.toList) (by simpa [Value.cells] using hf) hS
  exact ⟨x, a, _, c, by rw [show cs = cs.toList.toArray from by simp, e], rfl, hE, h1, h2⟩
end
end Go.Proofs.Ytmaecpmdikdclaa
