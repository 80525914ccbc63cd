/- Layer 17: the document's Get, GetRecord. -/
import Derived.Test.YtmaecpmdikdclaaNB
import Derived.Test.YtmaecpmdikdclaaMO
import Derived.Test.YtmaecpmdikdclaaMU
import Derived.Test.YtmaecpmdikdclaaMS
namespace Go.Proofs.Ytmaecpmdikdclaa
open Go.RowKit
theorem fdone_s (q g : Nat) (bs : List UInt8) (s : RSt) (w : World) (H : FS w q g bs s) : Calls Try.prog 52 #[.pointer (some ⟨q, 0, none⟩)] w fun e w' => e = .returned (.int .i64 (doneOf s.1 s.2)) ∧ ∃ m, w' = w.drewN m := by
  obtain ⟨k, h, e⟩ := H
  rw [e]
  exact fdone_q q g bs k s.2 w h
theorem es_rowD {w : World} {base n : Nat} {a : Option Addr} {c : Nat} {L : List Ent} (h : w.ownsRow base 114 2 (.slice a n c) n (cellsE L)) : EsAt w.cell? a L := by
  obtain ⟨_, _, _, ev, hE⟩ := es_of_rowD h
  injection ev with ev1 ev2 ev3
  subst ev1
  exact hE
/-- While a thing is read into its box. -/
structure StD (w0 : World) (q g XB RB : Nat) (bs : List UInt8) (T RT : TypeId) (rz : Array Value) (V : World) (s : RSt) (cs : List Value) : Prop where
  fs : FS V q g bs s
  bx : V.heap[XB]? = some (.cells cs.toArray T (0, 0))
  rb : V.heap[RB]? = some (.cells rz RT (0, 0))
  bel : Below w0.heap.size w0 V
theorem StD.call {w0 V w' : World} {q g XB RB : Nat} {bs : List UInt8} {T RT : TypeId} {rz : Array Value} {s s' : RSt} {cs : List Value} (h : StD w0 q g XB RB bs T RT rz V s cs) (hf : FS w' q g bs s') (hc : Chg V w' (fun k => k = q)) (h1 : XB ≠ q) (h2 : RB ≠ q) (h3 : w0.heap.size ≤ q) : StD w0 q g XB RB bs T RT rz w' s' cs :=
  ⟨hf, (hc.block _ (lt_of_block h.bx) h1).trans h.bx, (hc.block _ (lt_of_block h.rb) h2).trans h.rb, h.bel.trans (hc.below h.bel.size fun i (e : i = q) => by omega)⟩
theorem StD.put {w0 V : World} {q g XB RB : Nat} {bs : List UInt8} {T RT : TypeId} {rz : Array Value} {s : RSt} {cs : List Value} (h : StD w0 q g XB RB bs T RT rz V s cs) (k : Nat) (x : Value) (h1 : XB ≠ q) (h2 : XB ≠ g) (h3 : XB ≠ RB) (h4 : w0.heap.size ≤ XB) : StD w0 q g XB RB bs T RT rz (V.setCell ⟨XB, k, none⟩ x) s (cs.set k x) := by
  refine ⟨h.fs.chg (Chg.setCell V ⟨XB, k, none⟩ x) (fun e => h1 e.symm) (fun e => h2 e.symm), ?_, ?_, h.bel.setCell (p := ⟨XB, k, none⟩) h4 x⟩
  · rw [heap_setCell_same _ _ _ _ _ _ h.bx, List.setIfInBounds_toArray]
  · rw [Below.heap_setCell _ _ _ _ (fun e => h3 e.symm)]; exact h.rb
theorem StD.x {w0 V : World} {q g XB RB : Nat} {bs : List UInt8} {T RT : TypeId} {rz : Array Value} {s : RSt} {cs : List Value} (h : StD w0 q g XB RB bs T RT rz V s cs) (k : Nat) : V.cell? ⟨XB, k, none⟩ = cs[k]? ∧ V.frozen? ⟨XB, k, none⟩ = false ∧ XB < V.heap.size :=
  ⟨by rw [Lib.cell_of_heap h.bx]; simp, Lib.frozen_of_heap h.bx k, lt_of_block h.bx⟩
theorem load_recD {w : World} {b : Nat} {x0 x1 x2 x3 x4 : Value} (h : w.heap[b]? = some (.cells #[x0, x1, x2, x3, x4] 48 (0, 0))) : (loadVar 48 ⟨b, 0, none⟩).run Try.prog w = .ok (.agg #[x0, x1, x2, x3, x4]) w := by
  simp [loadVar, go_sem, Lib.cell_of_heap h]
/-- How the document's ref17.GetRecord ends. -/
def GetRecEndD (bs : List UInt8) (w : World) (e : Ending) (w' : World) : Prop := Below w.heap.size w w' ∧ ((readOk gRec Rec17.ok bs = false ∧ e = .returned (.tuple #[.agg #[.int .i64 0, .int .i64 0, .int .i64 0, .int .i64 0, .slice none 0 0], .int .i64 21])) ∨ (readOk gRec Rec17.ok bs = true ∧ ∃ va vc, e = .returned (.tuple #[recV (gRec (bs, 0)).1.kd (gRec (bs, 0)).1.vw (gRec (bs, 0)).1.nm (gRec (bs, 0)).1.op (.slice va (gRec (bs, 0)).1.log.length vc), .int .i64 0]) ∧ EsAt w'.cell? va (gRec (bs, 0)).1.log))
set_option maxRecDepth 100000 in
set_option maxHeartbeats 2000000 in
theorem rgetRec17_any (ao : Option Addr) (len cap : Nat) (bs : List UInt8) (w : World) (hl : bs.length = len) (hm : len ≤ 140737488351232) (hb : Bs w ao bs) : Calls Try.prog 25 #[.slice ao len cap] w (GetRecEndD bs w) := by
  obtain ⟨W1, hW1⟩ : ∃ W, W = w.alloc (.cells #[.int .i64 0, .int .i64 0, .int .i64 0, .int .i64 0, .slice none 0 0] 48) := ⟨_, rfl⟩
  have hz1 : W1.heap.size = w.heap.size + 1 := by rw [hW1]; simp
  have hb1 : Below w.heap.size w W1 := by rw [hW1]; exact (Below.refl _ w).alloc (Nat.le_refl _) _
  have bR1 : W1.heap[w.heap.size]? = some (.cells #[.int .i64 0, .int .i64 0, .int .i64 0, .int .i64 0, .slice none 0 0] 48 (0, 0)) := by rw [hW1]; exact heap_alloc_new w _
  have hNew := fnew_new ao len cap bs W1 hl hm (hb.keep (below_keep hb1))
  have hokd : readOk gRec Rec17.ok bs = (decide (bs.length ≤ 1048576) && (decide (doneOf (gRec (bs, 0)).2.1 (gRec (bs, 0)).2.2 = 0) && Rec17.ok (gRec (bs, 0)).1)) := rfl
  obtain ⟨s0, hs0⟩ : ∃ s : RSt, s = (bs, 0) := ⟨_, rfl⟩
  obtain ⟨kd, hkd⟩ : ∃ x, x = (gByte s0).1 := ⟨_, rfl⟩
  obtain ⟨s1, hs1⟩ : ∃ x, x = (gByte s0).2 := ⟨_, rfl⟩
  obtain ⟨vw, hvw⟩ : ∃ x, x = (gInt s1).1 := ⟨_, rfl⟩
  obtain ⟨s2, hs2⟩ : ∃ x, x = (gInt s1).2 := ⟨_, rfl⟩
  obtain ⟨nm, hnm⟩ : ∃ x, x = (gInt s2).1 := ⟨_, rfl⟩
  obtain ⟨s3, hs3⟩ : ∃ x, x = (gInt s2).2 := ⟨_, rfl⟩
  obtain ⟨op, hop⟩ : ∃ x, x = (gInt s3).1 := ⟨_, rfl⟩
  obtain ⟨s4, hs4⟩ : ∃ x, x = (gInt s3).2 := ⟨_, rfl⟩
  have hgeq : gRec s0 = (⟨kd, vw, nm, op, (gLog s4).1⟩, (gLog s4).2) := by simp only [gRec, gR, g3i, gTwo, hs1, hs2, hs3, hs4, hkd, hvw, hnm, hop]
  have hsm : ∀ x ∈ (gLog s4).1, x.d.length ≤ 9223372036854775807 := fun x hx => Nat.le_trans (gMany_all (one := gEnt) (P := fun x => x.d.length ≤ 65535) (fun s => gText_len _) _ _ x hx) (by decide)
  rw [← hs0, hgeq, hl] at hokd
  have HSame : Hid (gRec (bs, 0) = (⟨kd, vw, nm, op, (gLog s4).1⟩, (gLog s4).2)) := hid (by rw [← hs0]; exact hgeq)
  have HOk := hid hokd
  clear hgeq hokd hb
  have hC0 : ∀ W q g, FS W q g bs s0 → _ := fun W q g HW => fbyte_s q g bs s0 W HW
  rw [← hkd, ← hs1] at hC0
  have hC1 : ∀ W q g, FS W q g bs s1 → _ := fun W q g HW => fint_s q g bs s1 W HW
  rw [← hvw, ← hs2] at hC1
  have hC2 : ∀ W q g, FS W q g bs s2 → _ := fun W q g HW => fint_s q g bs s2 W HW
  rw [← hnm, ← hs3] at hC2
  have hC3 : ∀ W q g, FS W q g bs s3 → _ := fun W q g HW => fint_s q g bs s3 W HW
  rw [← hop, ← hs4] at hC3
  have hCL : ∀ W q g, FS W q g bs s4 → g < W.heap.size → _ := fun W q g HW hg => rread17_any q g bs s4 W HW hg
  have HFS0 : Hid (∀ W q g, RfS W q g bs 0 0 → FS W q g bs s0) := hid fun W q g h => ⟨0, by rw [hs0]; exact h, by rw [hs0]; rfl⟩
  generalize hLg : gLog s4 = lg at *
  obtain ⟨L, st⟩ := lg
  simp only at *
  clear hLg
  clear hs1 hs2 hs3 hs4 hkd hvw hnm hop hs0 hl
  go_enter Try.func25, Try.ntmps25
  go_wp2_with fail
  rw [← hW1]
  clear hW1
  refine hNew.mono ?_
  clear hNew
  rintro e w2 ⟨q, g, rfl, hq, hg, H2, hb2⟩
  have bR2 := (hb2.block _ (lt_of_block bR1)).trans bR1
  obtain ⟨G, hGl, F2⟩ : ∃ G, G < w2.heap.size ∧ FS w2 q G bs s0 := by
    have H2' := H2
    obtain ⟨⟨ao', cap', hE, hB, hc, hm'⟩, hgq, hle, hmx⟩ := H2
    rcases hB with h | ⟨off, ho, hc'⟩
    · exact ⟨w.heap.size, lt_of_block bR2, HFS0.out w2 q w.heap.size ⟨⟨ao', cap', hE, .inl h, hc, hm'⟩, by omega, hle, hmx⟩⟩
    · by_cases hbs : bs = []
      · exact ⟨w.heap.size, lt_of_block bR2, HFS0.out w2 q w.heap.size ⟨⟨ao', cap', hE, .inl hbs, hc, hm'⟩, by omega, hle, hmx⟩⟩
      · have := hc' 0 (by cases bs; exact absurd rfl hbs; simp)
        exact ⟨g, World.block_lt_of_cell? _ _ this, HFS0.out w2 q g H2'⟩
  clear HFS0 H2 hg
  have hq2 := F2.cell.2
  have hz2 : w.heap.size < w2.heap.size := lt_of_block bR2
  have hX0 := hC0 w2 q G F2
  clear hC0
  go_wp2_with (go_at_call 49; refine hX0.mono ?_; clear hX0; rintro e w3 ⟨rfl, F3, c3⟩)
  obtain ⟨XB, hXB⟩ : ∃ z, z = w3.heap.size := ⟨_, rfl⟩
  obtain ⟨V1, hV1⟩ : ∃ W, W = w3.alloc (.cells #[.int .i64 kd, .int .i64 0, .int .i64 0, .int .i64 0, .slice none 0 0] 48) := ⟨_, rfl⟩
  have hs3 := c3.size
  have bR3 := (c3.block _ (lt_of_block bR2) (by omega)).trans bR2
  have c3V : Chg w3 V1 (fun k => False) := by rw [hV1]; exact Chg.alloc _ _ _
  have hbV : Below w.heap.size w V1 := ((hb1.trans (hb2.mono hb1.size)).trans ((c3.below (by omega) fun i (e : i = q) => by omega))).trans (c3V.below (by omega) fun i e => e.elim)
  have S1 : StD w q G XB w.heap.size bs 48 48 #[.int .i64 0, .int .i64 0, .int .i64 0, .int .i64 0, .slice none 0 0] V1 s1 [.int .i64 kd, .int .i64 0, .int .i64 0, .int .i64 0, .slice none 0 0] := ⟨by rw [hV1]; exact F3.chg (Chg.alloc w3 _ (fun _ => False)) id id, by rw [hV1, hXB]; exact heap_alloc_new w3 _, (c3V.block _ (lt_of_block bR3) id).trans bR3, hbV⟩
  have n1 : XB ≠ q := by omega
  have n2 : XB ≠ G := by omega
  have n3 : XB ≠ w.heap.size := by omega
  have n4 : w.heap.size ≤ XB := by omega
  have n5 : w.heap.size ≠ q := by omega
  have n6 : w.heap.size ≤ q := by omega
  have GV1 : G < V1.heap.size := by have := c3V.size; omega
  have hzX : XB < V1.heap.size := lt_of_block S1.bx
  clear c3V hbV c3 F3 F2 bR3 bR2 bR1 hb2
  rw [← hV1, ← hXB]
  clear hV1 hXB
  have hX1 := hC1 V1 q G S1.fs
  clear hC1
  refine hX1.mono ?_
  clear hX1
  rintro e u1 ⟨rfl, F1', c1⟩
  have R1 := S1.call F1' c1 n1 n5 n6
  have hs1' := c1.size
  have x1 : u1.cell? ⟨XB, 1, none⟩ = some (.int .i64 0) := (R1.x 1).1
  have y1 := (R1.x 1).2.1
  have z1 := (R1.x 1).2.2
  obtain ⟨V2, hV2⟩ : ∃ W, W = u1.setCell ⟨XB, 1, none⟩ (.int .i64 vw) := ⟨_, rfl⟩
  have S2 : StD w q G XB w.heap.size bs 48 48 #[.int .i64 0, .int .i64 0, .int .i64 0, .int .i64 0, .slice none 0 0] V2 s2 [.int .i64 kd, .int .i64 vw, .int .i64 0, .int .i64 0, .slice none 0 0] := by rw [hV2]; exact R1.put 1 _ n1 n2 n3 n4
  have GV2 : G < V2.heap.size := by have : V2.heap.size = u1.heap.size := (by rw [hV2]; exact by simp); omega
  clear F1' c1 R1 S1
  go_wp2_with fail
  rw [← hV2]
  clear hV2 x1 y1 z1 hs1' GV1
  have hX2 := hC2 V2 q G S2.fs
  clear hC2
  refine hX2.mono ?_
  clear hX2
  rintro e u2 ⟨rfl, F2', c2⟩
  have R2 := S2.call F2' c2 n1 n5 n6
  have hs2' := c2.size
  have x2 : u2.cell? ⟨XB, 2, none⟩ = some (.int .i64 0) := (R2.x 2).1
  have y2 := (R2.x 2).2.1
  have z2 := (R2.x 2).2.2
  obtain ⟨V3, hV3⟩ : ∃ W, W = u2.setCell ⟨XB, 2, none⟩ (.int .i64 nm) := ⟨_, rfl⟩
  have S3 : StD w q G XB w.heap.size bs 48 48 #[.int .i64 0, .int .i64 0, .int .i64 0, .int .i64 0, .slice none 0 0] V3 s3 [.int .i64 kd, .int .i64 vw, .int .i64 nm, .int .i64 0, .slice none 0 0] := by rw [hV3]; exact R2.put 2 _ n1 n2 n3 n4
  have GV3 : G < V3.heap.size := by have : V3.heap.size = u2.heap.size := (by rw [hV3]; exact by simp); omega
  clear F2' c2 R2 S2
  go_wp2_with fail
  rw [← hV3]
  clear hV3 x2 y2 z2 hs2' GV2
  have hX3 := hC3 V3 q G S3.fs
  clear hC3
  refine hX3.mono ?_
  clear hX3
  rintro e u3 ⟨rfl, F3', c3⟩
  have R3 := S3.call F3' c3 n1 n5 n6
  have hs3' := c3.size
  have x3 : u3.cell? ⟨XB, 3, none⟩ = some (.int .i64 0) := (R3.x 3).1
  have y3 := (R3.x 3).2.1
  have z3 := (R3.x 3).2.2
  obtain ⟨V4, hV4⟩ : ∃ W, W = u3.setCell ⟨XB, 3, none⟩ (.int .i64 op) := ⟨_, rfl⟩
  have S4 : StD w q G XB w.heap.size bs 48 48 #[.int .i64 0, .int .i64 0, .int .i64 0, .int .i64 0, .slice none 0 0] V4 s4 [.int .i64 kd, .int .i64 vw, .int .i64 nm, .int .i64 op, .slice none 0 0] := by rw [hV4]; exact R3.put 3 _ n1 n2 n3 n4
  have GV4 : G < V4.heap.size := by have : V4.heap.size = u3.heap.size := (by rw [hV4]; exact by simp); omega
  clear F3' c3 R3 S3
  go_wp2_with fail
  rw [← hV4]
  clear hV4 x3 y3 z3 hs3' GV3
  have hRd := hCL V4 q G S4.fs GV4
  clear hCL
  refine hRd.mono ?_
  clear hRd
  rintro e w8 ⟨⟨v, rfl, hrow⟩, F8, c8⟩
  obtain ⟨va, vc, rfl, _, _, _⟩ := row_form hrow
  have R8 := S4.call F8 c8 n1 n5 n6
  have xl := lt_of_block S4.bx
  have hs8 := c8.size
  have x8 : w8.cell? ⟨XB, 4, none⟩ = some (.slice none 0 0) := (R8.x 4).1
  have y8 := (R8.x 4).2.1
  have z8 := (R8.x 4).2.2
  obtain ⟨W9, hW9⟩ : ∃ W, W = w8.setCell ⟨XB, 4, none⟩ (.slice va L.length vc) := ⟨_, rfl⟩
  have S9 : StD w q G XB w.heap.size bs 48 48 #[.int .i64 0, .int .i64 0, .int .i64 0, .int .i64 0, .slice none 0 0] W9 st [.int .i64 kd, .int .i64 vw, .int .i64 nm, .int .i64 op, .slice va L.length vc] := by rw [hW9]; exact R8.put 4 _ n1 n2 n3 n4
  have c89 : Chg w8 W9 (fun k => k = XB) := by rw [hW9]; exact Chg.setCell _ _ _
  have hrow9 : W9.ownsRow V4.heap.size 114 2 (.slice va L.length vc) L.length (cellsE L) := row_chg4 hrow c89 fun g e (q : g = _) => by have := (row_lt4 hrow g e).1; omega
  obtain ⟨_, _, _, ev, hE9⟩ := es_of_rowD hrow9
  injection ev with ev1 ev2 ev3
  subst ev1 ev3
  obtain ⟨F9, bX9, bR9, hb9⟩ := S9
  have hD := fdone_s q G bs st W9 F9
  have hRt := fun m => rrightRec17_any ⟨kd, vw, nm, op, L⟩ va L.length vc (W9.drewN m) rfl hE9 hsm
  have boxX : ∀ W, Below W9.heap.size W9 W → (W.cell? ⟨XB, 0, none⟩ = some (.int .i64 kd) ∧ W.cell? ⟨XB, 1, none⟩ = some (.int .i64 vw) ∧ W.cell? ⟨XB, 2, none⟩ = some (.int .i64 nm) ∧ W.cell? ⟨XB, 3, none⟩ = some (.int .i64 op) ∧ W.cell? ⟨XB, 4, none⟩ = some (.slice va L.length vc)) ∧ XB < W.heap.size := fun W hW => by
    have e := (hW.block _ (lt_of_block bX9)).trans bX9
    refine ⟨⟨?_, ?_, ?_, ?_, ?_⟩, lt_of_block e⟩ <;> (rw [Lib.cell_of_heap e]; rfl)
  have boxR : ∀ W, Below W9.heap.size W9 W → ((W.cell? ⟨w.heap.size, 0, none⟩ = some (.int .i64 0) ∧ W.cell? ⟨w.heap.size, 1, none⟩ = some (.int .i64 0) ∧ W.cell? ⟨w.heap.size, 2, none⟩ = some (.int .i64 0) ∧ W.cell? ⟨w.heap.size, 3, none⟩ = some (.int .i64 0) ∧ W.cell? ⟨w.heap.size, 4, none⟩ = some (.slice none 0 0)) ∧ w.heap.size < W.heap.size) ∧ (∀ k, W.frozen? ⟨w.heap.size, k, none⟩ = false) ∧ W.heap[w.heap.size]? = some (.cells #[.int .i64 0, .int .i64 0, .int .i64 0, .int .i64 0, .slice none 0 0] 48 (0, 0)) := fun W hW => by
    have e := (hW.block _ (lt_of_block bR9)).trans bR9
    refine ⟨⟨⟨?_, ?_, ?_, ?_, ?_⟩, lt_of_block e⟩, fun k => Lib.frozen_of_heap e k, e⟩ <;> (rw [Lib.cell_of_heap e]; rfl)
  have hb19 : w.heap.size ≤ W9.heap.size := hb9.size
  have finNo : readOk gRec Rec17.ok bs = false → ∀ W, Below W9.heap.size W9 W → GetRecEndD bs w (.returned (.tuple #[.agg #[.int .i64 0, .int .i64 0, .int .i64 0, .int .i64 0, .slice none 0 0], .int .i64 21])) (setN W w.heap.size 0 [.int .i64 0, .int .i64 0, .int .i64 0, .int .i64 0, .slice none 0 0]) := fun h W hW => ⟨setN_below _ _ (hb9.trans (hW.mono hb9.size)) (Nat.le_refl _) (Nat.le_refl _), .inl ⟨h, rfl⟩⟩
  have finYes : readOk gRec Rec17.ok bs = true → ∀ W, Below W9.heap.size W9 W → GetRecEndD bs w (.returned (.tuple #[recV kd vw nm op (.slice va L.length vc), .int .i64 0])) (setN W w.heap.size 0 [.int .i64 kd, .int .i64 vw, .int .i64 nm, .int .i64 op, .slice va L.length vc]) := fun h W hW => by
    have hrw := row_chg4 (row_below2 hrow9 hW) (setN_chg [.int .i64 kd, .int .i64 vw, .int .i64 nm, .int .i64 op, .slice va L.length vc] 0 W (b := w.heap.size)) fun g e q => by have := (row_lt4 (row_below2 hrow9 hW) g e).1; omega
    refine ⟨setN_below _ _ (hb9.trans (hW.mono hb9.size)) (Nat.le_refl _) (Nat.le_refl _), .inr ⟨h, va, vc, ?_, ?_⟩⟩
    · exact (congrArg (fun x : Rec17 × RSt => Ending.returned (.tuple #[recV x.1.kd x.1.vw x.1.nm x.1.op (.slice va x.1.log.length vc), .int .i64 0])) HSame.out).symm
    · exact (congrArg (fun x : Rec17 × RSt => EsAt (setN W w.heap.size 0 [.int .i64 kd, .int .i64 vw, .int .i64 nm, .int .i64 op, .slice va L.length vc]).cell? va x.1.log) HSame.out).mpr (es_rowD hrw)
  have HNo := hid finNo
  have HYes := hid finYes
  clear finNo finYes hrow9 hb9 hb1 hrow c8 c89 F8 R8 S4 hE9 hsm F9 bX9
  have boxR9 := boxR W9 (Below.refl _ _)
  obtain ⟨⟨⟨yy0, yy1, yy2, yy3, yy4⟩, yl9⟩, fz, bRz⟩ := boxR9
  obtain ⟨⟨xx0, xx1, xx2, xx3, xx4⟩, xl9⟩ := boxX W9 (Below.refl _ _)
  clear bR9
  by_cases hd : doneOf st.1 st.2 = 0
  · rw [hd] at hD
    cases hr : Rec17.ok ⟨kd, vw, nm, op, L⟩ with
    | false =>
      have hf : readOk gRec Rec17.ok bs = false := by rw [HOk.out, hr, Bool.and_false, Bool.and_false]
      rw [hr] at hRt
      have HN2 := hid (HNo.out hf)
      clear HNo HYes HOk hf hr HSame boxX
      go_wp2_with fail
      rw [← hW9]
      clear hW9
      refine hD.mono ?_
      clear hD
      rintro e w' ⟨rfl, nn, hw'⟩
      subst hw'
      go_wp2_with (go_at_call 27; refine (hRt _).mono ?_; clear hRt; rintro e w10 ⟨rfl, hb10q⟩; have hb10 : Below W9.heap.size W9 w10 := (below_dN (Below.refl _ W9) _).trans hb10q; obtain ⟨⟨⟨u0', u1', u2', u3', u4'⟩, ul⟩, fz10, bR10⟩ := boxR w10 hb10; clear boxR; have g0 := fz10 0; have g1 := fz10 1; have g2 := fz10 2; have g3 := fz10 3; have g4 := fz10 4)
      exact ret_box2 rfl rfl rfl rfl (load_recD (setN_all [.int .i64 0, .int .i64 0, .int .i64 0, .int .i64 0, .slice none 0 0] bR10 rfl)) (HN2.out w10 hb10)
    | true =>
      rw [hr] at hRt
      by_cases hlx : len ≤ 1048576
      · have ht : readOk gRec Rec17.ok bs = true := by rw [HOk.out, hr, hd, decide_eq_true hlx]; rfl
        have HY2 := hid (HYes.out ht)
        have hlx2 : ¬ ((1048576 : Int) < (len : Int)) := by omega
        clear HNo HYes HOk ht hr HSame
        generalize L.length = ll at *
        go_wp2_with fail
        rw [← hW9]
        clear hW9
        refine hD.mono ?_
        clear hD
        rintro e w' ⟨rfl, nn, hw'⟩
        subst hw'
        go_wp2_with (go_at_call 27; refine (hRt _).mono ?_; clear hRt; rintro e w10 ⟨rfl, hb10q⟩; have hb10 : Below W9.heap.size W9 w10 := (below_dN (Below.refl _ W9) _).trans hb10q; obtain ⟨⟨⟨u0', u1', u2', u3', u4'⟩, ul⟩, fz10, bR10⟩ := boxR w10 hb10; clear boxR; obtain ⟨⟨t0, t1, t2, t3, t4⟩, tl⟩ := boxX w10 hb10; clear boxX; have g0 := fz10 0; have g1 := fz10 1; have g2 := fz10 2; have g3 := fz10 3; have g4 := fz10 4)
        exact ret_box2 rfl rfl rfl rfl (load_recD (setN_all [.int .i64 kd, .int .i64 vw, .int .i64 nm, .int .i64 op, .slice va ll vc] bR10 rfl)) (HY2.out w10 hb10)
      · have hf : readOk gRec Rec17.ok bs = false := by rw [HOk.out, decide_eq_false hlx]; rfl
        have HN2 := hid (HNo.out hf)
        have hlx2 : (1048576 : Int) < (len : Int) := by omega
        clear HNo HYes HOk hf hr HSame boxX
        go_wp2_with fail
        rw [← hW9]
        clear hW9
        refine hD.mono ?_
        clear hD
        rintro e w' ⟨rfl, nn, hw'⟩
        subst hw'
        go_wp2_with (go_at_call 27; refine (hRt _).mono ?_; clear hRt; rintro e w10 ⟨rfl, hb10q⟩; have hb10 : Below W9.heap.size W9 w10 := (below_dN (Below.refl _ W9) _).trans hb10q; obtain ⟨⟨⟨u0', u1', u2', u3', u4'⟩, ul⟩, fz10, bR10⟩ := boxR w10 hb10; clear boxR; have g0 := fz10 0; have g1 := fz10 1; have g2 := fz10 2; have g3 := fz10 3; have g4 := fz10 4)
        exact ret_box2 rfl rfl rfl rfl (load_recD (setN_all [.int .i64 0, .int .i64 0, .int .i64 0, .int .i64 0, .slice none 0 0] bR10 rfl)) (HN2.out w10 hb10)
  · have hf : readOk gRec Rec17.ok bs = false := by rw [HOk.out, decide_eq_false hd]; simp
    have hne : (doneOf st.1 st.2 != 0) = true := by simp [hd]
    have HN2 := hid (HNo.out hf)
    clear HNo HYes HOk hf HSame boxX hRt
    generalize doneOf st.1 st.2 = dn at hD hne
    go_wp2_with fail
    rw [← hW9]
    clear hW9
    refine hD.mono ?_
    clear hD
    rintro e w' ⟨rfl, nn, hw'⟩
    subst hw'
    obtain ⟨⟨⟨u0', u1', u2', u3', u4'⟩, ul⟩, fz10, bR10⟩ := boxR (W9.drewN nn) (below_dN (Below.refl _ W9) nn)
    clear boxR
    have g0 := fz10 0; have g1 := fz10 1; have g2 := fz10 2; have g3 := fz10 3; have g4 := fz10 4
    go_wp2_with fail
    exact ret_box2 rfl rfl rfl rfl (load_recD (setN_all [.int .i64 0, .int .i64 0, .int .i64 0, .int .i64 0, .slice none 0 0] bR10 rfl)) (HN2.out (W9.drewN nn) (below_dN (Below.refl _ W9) nn))
end Go.Proofs.Ytmaecpmdikdclaa
