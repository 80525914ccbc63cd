/- What a reader's calls leave (out of layer 4's GM, GI, GH, GF). What the document's reader reads (out of layer 4's DG). Layer 16: the document's reader of a sector's bytes; a part in its box. -/
import Derived.Test.YthmjejmignangaaGreatDoorRH
import Derived.Laws.BitsAllLaws
import Derived.Test.YthmjejmignangaaGreatDoorJP
namespace Go.Proofs.YthmjejmignangaaGreatDoor
open Go.RowKit
theorem row_chg4 {w w' : World} {base n size : Nat} {e : TypeId} {v : Value} {xs : List Value} {S : Nat → Prop} (h : w.ownsRow base e size v n xs) (k : Chg w w' S) (hv : ∀ g, v.ownBlock = some g → ¬ S g) : w'.ownsRow base e size v n xs := by
  refine ⟨h.1, ?_⟩
  rcases h.2 with h2 | ⟨g, cap, cur, rfl, hg, hh, r⟩
  · exact .inl h2
  · exact .inr ⟨g, cap, cur, rfl, hg, by rw [k.block g (lt_of_block hh) (hv g rfl)]; exact hh, r⟩
theorem row_lt4 {w : World} {base n size : Nat} {e : TypeId} {v : Value} {xs : List Value} (h : w.ownsRow base e size v n xs) : ∀ k, v.ownBlock = some k → base ≤ k ∧ k < w.heap.size := World.ownsRow.lt h
theorem row_lower4 {w : World} {base base' n size : Nat} {e : TypeId} {v : Value} {xs : List Value} (h : w.ownsRow base e size v n xs) (hb : base' ≤ base) : w.ownsRow base' e size v n xs := by
  refine ⟨h.1, ?_⟩
  rcases h.2 with h2 | ⟨g, cap, cur, rfl, hg, r⟩
  · exact .inl h2
  · exact .inr ⟨g, cap, cur, rfl, Nat.le_trans hb hg, r⟩
theorem rds_lt4 {w : World} {p h g : Nat} {bs : List UInt8} {err : Int} (H : RdS w p h g bs err) : p < w.heap.size ∧ h < w.heap.size := by
  obtain ⟨⟨ao, cap, hE, _⟩, _⟩ := H
  exact ⟨lt_of_block hE.hp, lt_of_block hE.hh⟩
/-- The value of package code's reader. -/
abbrev rdV (p : Nat) : Value := .agg #[.pointer (some ⟨p, 0, none⟩)]
/-- How a list that was read ends: a row of its own, and the reader. -/
def ManyEnd (e : TypeId) (size n : Nat) (xs : List Value) (p h g : Nat) (st : RSt) (w : World) (x : Ending) (w' : World) : Prop := (∃ v, x = .returned v ∧ w'.ownsRow w.heap.size e size v n xs) ∧ RdS w' p h g st.1 st.2 ∧ Chg w w' (fun k => k = h)
/-- What reads one thing. -/
def OneEnd (r : Value) (p h g : Nat) (st : RSt) (w : World) (x : Ending) (w' : World) : Prop := x = .returned r ∧ RdS w' p h g st.1 st.2 ∧ Chg w w' (fun k => k = h)
/-- What a round leaves. -/
theorem many_step {w wr w2 w6 : World} {p h g n base size : Nat} {e : TypeId} {v v' : Value} {st : RSt} {xs : List Value} {o : Obj} (hb : base = w.heap.size) (hp : p < w.heap.size) (hh : h < w.heap.size) (hg : g < w.heap.size) (C0 : Chg w wr (fun i => i = h)) (hrow : wr.ownsRow base e size v n xs) (c1 : Chg wr w2 (fun i => i = h)) (F : RdS w2 p h g st.1 st.2) (hs : Step (w2.alloc o) v w6 v') :
    RdS w6 p h g st.1 st.2 ∧ Chg w w6 (fun i => i = h) := by
  subst hb
  have hlt := row_lt4 hrow
  have c2 : Chg w w2 (fun i => i = h) := C0.trans c1 fun _ _ e => e
  have c3 : Chg w (w2.alloc o) (fun i => i = h) := c2.trans (Chg.alloc w2 o (fun i => i = h)) fun _ _ e => e
  refine ⟨(F.chg (Chg.alloc w2 o (fun _ => False)) id id id).chg (Chg.of_grown hs.1) (fun e => ?_) (fun e => ?_) (fun e => ?_), c3.trans (Chg.of_grown hs.1) fun i hi e => ?_⟩
  all_goals (have := (hlt _ e).1; omega)
theorem many_row {w wr w2 : World} {h n base size : Nat} {e : TypeId} {v : Value} {xs : List Value} (hb : base = w.heap.size) (hh : h < w.heap.size) (hrow : wr.ownsRow base e size v n xs) (c1 : Chg wr w2 (fun i => i = h)) (o : Obj) : (w2.alloc o).ownsRow base e size v n xs := by
  subst hb
  have hlt := row_lt4 hrow
  exact row_chg4 (row_chg4 hrow c1 fun b hb e => by have := (hlt b hb).1; omega) (Chg.alloc w2 o (fun _ => False)) (fun _ _ => id)
/-- The rounds: what was read so far, and what comes. -/
theorem gMany_round {α : Type} {one : RSt → α × RSt} {n k : Nat} {st st' : RSt} {L : List α} (hk : k < n) (h0 : st'.2 = 0) (h : gMany one n st = (L ++ (gMany one (n - k) st').1, (gMany one (n - k) st').2)) : gMany one n st = ((L ++ [(one st').1]) ++ (gMany one (n - (k + 1)) (one st').2).1, (gMany one (n - (k + 1)) (one st').2).2) := by
  rw [h, show n - k = (n - (k + 1)) + 1 by omega]
  conv => lhs; unfold gMany
  rw [if_neg (by simp [h0])]
  simp
theorem gMany_end {α : Type} {one : RSt → α × RSt} {n k : Nat} {st st' : RSt} {L : List α} (hk : k = n ∨ st'.2 ≠ 0) (h : gMany one n st = (L ++ (gMany one (n - k) st').1, (gMany one (n - k) st').2)) : gMany one n st = (L, st') := by
  rw [h]
  rcases hk with rfl | hk
  · rw [Nat.sub_self]; simp [gMany]
  · rw [gMany_err _ _ hk]; simp
theorem cells_new4 (W : World) (xs : List Value) (t : TypeId) (B : Nat) (hB : W.heap.size = B) : ∀ j u, xs[j]? = some u → (W.alloc (.cells xs.toArray t)).cell? ((⟨B, 0, none⟩ : Addr).add j) = some u := by
  subst hB
  intro j u hu
  rw [Addr.add_lit, Lib.cell_of_heap (heap_alloc_new W (.cells xs.toArray t))]
  simpa using hu
theorem gbyte_s (p h g : Nat) (s : RSt) (w : World) (H : RdS w p h g s.1 s.2) : Calls Tryz.prog 72 #[.pointer (some ⟨p, 0, none⟩)] w (OneEnd (.int .i64 (gByte s).1) p h g (gByte s).2 w) := rbyte_all p h g s.1 s.2 w H
theorem gint_s (p h g : Nat) (s : RSt) (w : World) (H : RdS w p h g s.1 s.2) : Calls Tryz.prog 70 #[.pointer (some ⟨p, 0, none⟩)] w (OneEnd (.int .i64 (gInt s).1) p h g (gInt s).2 w) := rint_all p h g s.1 s.2 w H
theorem gByte_nat (s : RSt) : ∃ n : Nat, n ≤ 255 ∧ (gByte s).1 = n := by
  unfold gByte ansByte
  simp only
  split
  · exact ⟨0, by omega, rfl⟩
  split
  · exact ⟨0, by omega, rfl⟩
  · exact ⟨_, by have := (s.1.getD 0 0).toNat_lt; omega, rfl⟩
/-- A block of two cells that a call keeps. -/
theorem kept2 {w w' : World} {b : Nat} {x y : Value} {t : TypeId} {S : Nat → Prop} (hb : w.heap[b]? = some (.cells #[x, y] t (0, 0))) (hc : Chg w w' S) (hn : ¬ S b) : w'.heap[b]? = some (.cells #[x, y] t (0, 0)) := (hc.block b (lt_of_block hb) hn).trans hb
theorem gText_len (s : RSt) : (gText s).1.length ≤ 65535 := by
  unfold gText ansText
  simp only
  split
  · simp
  split
  · simp
  · have := tl_le s.1
    simp only [List.length_take]
    omega
theorem gMany_len {α : Type} {one : RSt → α × RSt} : ∀ (n : Nat) (s : RSt), (gMany one n s).1.length ≤ n
  | 0, _ => Nat.le_refl _
  | n + 1, s => by
    unfold gMany
    split
    · simp
    · simp only [List.length_cons]
      have := gMany_len (one := one) n (one s).2
      omega
theorem gMany_all {α : Type} {one : RSt → α × RSt} {P : α → Prop} (h : ∀ s, P (one s).1) : ∀ (n : Nat) (s : RSt), ∀ x ∈ (gMany one n s).1, P x
  | 0, _ => fun x hx => by simp [gMany] at hx
  | n + 1, s => fun x hx => by
    unfold gMany at hx
    split at hx
    · simp at hx
    · simp only [List.mem_cons] at hx
      rcases hx with rfl | hx
      · exact h s
      · exact gMany_all h n _ x hx
theorem gByte_le (s : RSt) : (gByte s).1.toNat ≤ 255 := by
  obtain ⟨n, hn, e⟩ := gByte_nat s
  rw [e, Int.toNat_natCast]; exact hn
theorem or256 (hi lo : Nat) (h1 : hi ≤ 255) (h2 : lo ≤ 255) : bits BinOp.or IntKind.i64 (IntKind.i64.wrap ((hi : Int) * 256)) (lo : Int) = ((hi * 256 + lo : Nat) : Int) := by
  have e0 : IntKind.i64.wrap ((hi : Int) * 256) = (hi : Int) * 256 := by rw [IntKind.wrap_i64]; omega
  rw [e0]
  have e : (hi : Int) * 256 = ((hi * 256 : Nat) : Int) := by omega
  rw [e]
  show IntKind.i64.wrap ((BitVec.ofInt 64 ((hi * 256 : Nat) : Int) ||| BitVec.ofInt 64 (lo : Int)).toNat : Int) = _
  rw [BitVec.toNat_or, ofInt_u64 _ (by omega), ofInt_u64 _ (by omega), nat_join8 _ _ (by omega) (by omega), IntKind.wrap_i64]
  omega
end Go.Proofs.YthmjejmignangaaGreatDoor
namespace Go.Proofs.YthmjejmignangaaGreatDoor
open Go.RowKit
/-- The document's reader of bs has s. -/
def FS (w : World) (q g : Nat) (bs : List UInt8) (s : RSt) : Prop := ∃ k, RfS w q g bs k s.2 ∧ s.1 = bs.drop k
theorem FS.chg {w w' : World} {q g : Nat} {bs : List UInt8} {s : RSt} {S : Nat → Prop} (H : FS w q g bs s) (c : Chg w w' S) (h1 : ¬ S q) (h2 : ¬ S g) : FS w' q g bs s := by
  obtain ⟨k, h, e⟩ := H
  exact ⟨k, h.chg c h1 h2, e⟩
def OneEndF (r : Value) (q g : Nat) (bs : List UInt8) (st : RSt) (w : World) (x : Ending) (w' : World) : Prop := x = .returned r ∧ FS w' q g bs st ∧ Chg w w' (fun k => k = q)
theorem fbyte_s (q g : Nat) (bs : List UInt8) (s : RSt) (w : World) (H : FS w q g bs s) : Calls Tryz.prog 54 #[.pointer (some ⟨q, 0, none⟩)] w (OneEndF (.int .i64 (gByte s).1) q g bs (gByte s).2 w) := by
  obtain ⟨k, h, e⟩ := H
  refine (fbyte_all q g bs k s.2 w h).mono ?_
  rw [← e]
  rintro _ w' ⟨rfl, h', c⟩
  exact ⟨rfl, ⟨_, h', by simp [gByte, rB, e, List.drop_drop]⟩, c⟩
theorem fint_s (q g : Nat) (bs : List UInt8) (s : RSt) (w : World) (H : FS w q g bs s) : Calls Tryz.prog 53 #[.pointer (some ⟨q, 0, none⟩)] w (OneEndF (.int .i64 (gInt s).1) q g bs (gInt s).2 w) := by
  obtain ⟨k, h, e⟩ := H
  refine (fint_all q g bs k s.2 w h).mono ?_
  rw [← e]
  rintro _ w' ⟨rfl, h', c⟩
  exact ⟨rfl, ⟨_, h', by simp [gInt, rB, e, List.drop_drop]⟩, c⟩
theorem FS.cell {w : World} {q g : Nat} {bs : List UInt8} {s : RSt} (H : FS w q g bs s) : w.cell? ⟨q, 2, none⟩ = some (.int .i64 s.2) ∧ q < w.heap.size := by
  obtain ⟨k, h, e⟩ := H
  obtain ⟨⟨ao, cap, hE, _⟩, _⟩ := h
  exact ⟨(cells3 hE).1.2.2, lt_of_block hE⟩
def ManyEndF (e : TypeId) (size n : Nat) (xs : List Value) (q g : Nat) (bs : List UInt8) (st : RSt) (w : World) (x : Ending) (w' : World) : Prop := (∃ v, x = .returned v ∧ w'.ownsRow w.heap.size e size v n xs) ∧ FS w' q g bs st ∧ Chg w w' (fun k => k = q)
theorem manyf_step4 {w wr w2 w6 : World} {q g n base size : Nat} {e : TypeId} {v v' : Value} {st : RSt} {xs : List Value} {bs : List UInt8} {o : Obj} (hb : base = w.heap.size) (hq : q < w.heap.size) (hg : g < w.heap.size) (C0 : Chg w wr (fun i => i = q)) (hrow : wr.ownsRow base e size v n xs) (c1 : Chg wr w2 (fun i => i = q)) (F : FS w2 q g bs st) (hs : Step (w2.alloc o) v w6 v') :
    FS w6 q g bs st ∧ Chg w w6 (fun i => i = q) := by
  subst hb
  have hlt := row_lt4 hrow
  have c2 : Chg w w2 (fun i => i = q) := C0.trans c1 fun _ _ e => e
  have c3 : Chg w (w2.alloc o) (fun i => i = q) := c2.trans (Chg.alloc w2 o (fun i => i = q)) fun _ _ e => e
  refine ⟨(F.chg (Chg.alloc w2 o (fun _ => False)) id id).chg (Chg.of_grown hs.1) (fun e => ?_) (fun e => ?_), c3.trans (Chg.of_grown hs.1) fun i hi e => ?_⟩
  all_goals (have := (hlt _ e).1; omega)
end Go.Proofs.YthmjejmignangaaGreatDoor
namespace Go.Proofs.YthmjejmignangaaGreatDoor
open Go.RowKit
theorem fbyte_at {q g : Nat} {bs : List UInt8} {b : List UInt8} {w : World} (H : FS w q g bs (b, 0)) (hl : 1 ≤ b.length) : Calls Tryz.prog 54 #[.pointer (some ⟨q, 0, none⟩)] w (OneEndF (.int .i64 ((b.getD 0 0).toNat : Nat)) q g bs (b.drop 1, 0) w) := by
  have h := fbyte_s q g bs (b, 0) w H
  have hn : ¬ b.length < 1 := by omega
  simpa [gByte, ansByte, rB, cutOf, errOf, hn] using h
theorem fint_at {q g : Nat} {bs : List UInt8} {b : List UInt8} {w : World} (H : FS w q g bs (b, 0)) (hl : 8 ≤ b.length) : Calls Tryz.prog 53 #[.pointer (some ⟨q, 0, none⟩)] w (OneEndF (.int .i64 (toInt (num (b.take 8)))) q g bs (b.drop 8, 0) w) := by
  have h := fint_s q g bs (b, 0) w H
  have hn : ¬ b.length < 8 := by omega
  simpa [gInt, ansInt, rB, cutOf, errOf, hn] using h
/-- While the document reads a part. -/
structure DS (w : World) (q g XB : Nat) (bs : Bt) (u : Bt) (e n i c : Int) (v : Value) (V : World) : Prop where
  fs : FS V q g bs (u, 0)
  bx : V.heap[XB]? = some (.cells #[.int .i64 e, .int .i64 n, .int .i64 i, .int .i64 c, v] 78 (0, 0))
  rb : V.heap[w.heap.size + 1]? = some (.cells #[.int .i64 0, .int .i64 0, .int .i64 0, .int .i64 0, .slice none 0 0] 78 (0, 0))
  bel : Below w.heap.size w V
  o1 : w.heap.size + 1 < q
  o2 : q < XB
  o3 : g < XB
section
variable {w : World} {q g XB : Nat} {bs u : Bt} {e n i c : Int} {v : Value} {V : World}
theorem DS.chg (h : DS w q g XB bs u e n i c v V) {W' : World} {u' : Bt} (hf : FS W' q g bs (u', 0)) (hc : Chg V W' (fun k => k = q)) : DS w q g XB bs u' e n i c v W' := by
  have := h.o1; have := h.o2
  exact ⟨hf, (hc.block _ (lt_of_block h.bx) (by omega)).trans h.bx, (hc.block _ (lt_of_block h.rb) (by omega)).trans h.rb, h.bel.trans (hc.below h.bel.size fun i (e : i = q) => by omega), h.o1, h.o2, h.o3⟩
theorem DS.drew (h : DS w q g XB bs u e n i c v V) : DS w q g XB bs u e n i c v V.drew := h.chg (h.fs.chg (Chg.drew V (fun _ => False)) id id) (Chg.drew V _)
theorem DS.alloc (h : DS w q g XB bs u e n i c v V) (o : Obj) : DS w q g XB bs u e n i c v (V.alloc o) := h.chg (h.fs.chg (Chg.alloc V o (fun _ => False)) id id) (Chg.alloc V o _)
theorem DS.put (h : DS w q g XB bs u e n i c v V) (k : Nat) (x : Value) {e' n' i' c' : Int} {v' : Value} (hp : (#[Value.int .i64 e, .int .i64 n, .int .i64 i, .int .i64 c, v]).setIfInBounds k x = #[.int .i64 e', .int .i64 n', .int .i64 i', .int .i64 c', v']) : DS w q g XB bs u e' n' i' c' v' (V.setCell ⟨XB, k, none⟩ x) := by
  have h1 := h.o1; have h2 := h.o2; have h3 := h.o3
  have hc := Chg.setCell V ⟨XB, k, none⟩ x
  refine ⟨h.fs.chg hc (by show ¬ q = XB; omega) (by show ¬ g = XB; omega), ?_, (hc.block _ (lt_of_block h.rb) (by show ¬ w.heap.size + 1 = XB; omega)).trans h.rb, h.bel.setCell (by show w.heap.size ≤ XB; omega) x, h1, h2, h3⟩
  rw [heap_setCell_same _ _ _ _ _ _ h.bx, hp]
theorem DS.rd (h : DS w q g XB bs u e n i c v V) : (V.cell? ⟨XB, 0, none⟩ = some (.int .i64 e) ∧ V.cell? ⟨XB, 1, none⟩ = some (.int .i64 n) ∧ V.cell? ⟨XB, 2, none⟩ = some (.int .i64 i) ∧ V.cell? ⟨XB, 3, none⟩ = some (.int .i64 c) ∧ V.cell? ⟨XB, 4, none⟩ = some v) ∧ (∀ k, V.frozen? ⟨XB, k, none⟩ = false) ∧ XB < V.heap.size :=
  ⟨⟨Lib.cell_of_heap h.bx 0, Lib.cell_of_heap h.bx 1, Lib.cell_of_heap h.bx 2, Lib.cell_of_heap h.bx 3, Lib.cell_of_heap h.bx 4⟩, fun k => Lib.frozen_of_heap h.bx k, lt_of_block h.bx⟩
theorem DS.rr (h : DS w q g XB bs u e n i c v V) : (V.cell? ⟨w.heap.size + 1, 0, none⟩ = some (.int .i64 0) ∧ V.cell? ⟨w.heap.size + 1, 1, none⟩ = some (.int .i64 0) ∧ V.cell? ⟨w.heap.size + 1, 2, none⟩ = some (.int .i64 0) ∧ V.cell? ⟨w.heap.size + 1, 3, none⟩ = some (.int .i64 0) ∧ V.cell? ⟨w.heap.size + 1, 4, none⟩ = some (.slice none 0 0)) ∧ (∀ k, V.frozen? ⟨w.heap.size + 1, k, none⟩ = false) ∧ w.heap.size + 1 < V.heap.size :=
  ⟨⟨Lib.cell_of_heap h.rb 0, Lib.cell_of_heap h.rb 1, Lib.cell_of_heap h.rb 2, Lib.cell_of_heap h.rb 3, Lib.cell_of_heap h.rb 4⟩, fun k => Lib.frozen_of_heap h.rb k, lt_of_block h.rb⟩
theorem DS.int (h : DS w q g XB bs u e n i c v V) (hl : 8 ≤ u.length) : Calls Tryz.prog 53 #[.pointer (some ⟨q, 0, none⟩)] V fun x W' => x = .returned (.int .i64 (toInt (num (u.take 8)))) ∧ DS w q g XB bs (u.drop 8) e n i c v W' :=
  (fint_at h.fs hl).mono fun _ _ ⟨e, f, k⟩ => ⟨e, h.chg f k⟩
theorem DS.byte (h : DS w q g XB bs u e n i c v V) (hl : 1 ≤ u.length) : Calls Tryz.prog 54 #[.pointer (some ⟨q, 0, none⟩)] V fun x W' => x = .returned (.int .i64 ((u.getD 0 0).toNat : Nat)) ∧ DS w q g XB bs (u.drop 1) e n i c v W' :=
  (fbyte_at h.fs hl).mono fun _ _ ⟨e, f, k⟩ => ⟨e, h.chg f k⟩
theorem DS.byteR (h : DS w q g XB bs u e n i c v V) (hl : 1 ≤ u.length) {T : TypeId} {xs : List Value} (hO : Own V (XB + 1) T v xs) : Calls Tryz.prog 54 #[.pointer (some ⟨q, 0, none⟩)] V fun x W' => x = .returned (.int .i64 ((u.getD 0 0).toNat : Nat)) ∧ DS w q g XB bs (u.drop 1) e n i c v W' ∧ Own W' (XB + 1) T v xs :=
  (fbyte_at h.fs hl).mono fun _ W' ⟨e, f, k⟩ => ⟨e, h.chg f k, row_keep hO fun g' hg => by
    obtain ⟨h1, cur, h2⟩ := own_block hO hg
    have := h.o2
    exact k.block g' (lt_of_block h2) (by omega)⟩
theorem DS.app (h : DS w q g XB bs u e n i c v V) {o : Obj} {V1 : World} {v' : Value} {T : TypeId} {xs ys : List Value} (hO : Own V (XB + 1) T v xs) (hst : Step (V.alloc o) v V1 v') (ho : Own V1 (XB + 1) T v' ys) :
    DS w q g XB bs u e n i c v' (V1.setCell ⟨XB, 4, none⟩ v') ∧ Own (V1.setCell ⟨XB, 4, none⟩ v') (XB + 1) T v' ys ∧ V1.cell? ⟨XB, 4, none⟩ = some v ∧ V1.frozen? ⟨XB, 4, none⟩ = false := by
  have h1 := h.o1; have h2 := h.o2; have h3 := h.o3
  have hc : Chg V V1 (fun i => XB < i) := (Chg.alloc V o _).trans ((Chg.of_grown hst.1).mono fun i _ e => by have := (own_block hO e).1; omega) fun _ _ e => e
  have hb1 := (hc.block _ (lt_of_block h.bx) (by omega)).trans h.bx
  have hD : DS w q g XB bs u e n i c v V1 := ⟨h.fs.chg hc (by show ¬ XB < q; omega) (by show ¬ XB < g; omega), hb1, (hc.block _ (lt_of_block h.rb) (by show ¬ XB < w.heap.size + 1; omega)).trans h.rb, h.bel.trans (hc.below h.bel.size fun i (e : XB < i) => by omega), h1, h2, h3⟩
  refine ⟨hD.put 4 v' rfl, row_keep ho fun g hg => Below.heap_setCell _ _ _ _ ?_, Lib.cell_of_heap hb1 4, Lib.frozen_of_heap hb1 4⟩
  have := (own_block ho hg).1
  simp
  omega
end
theorem two_at (b : Bt) (h : b.length = 64) (k : Nat) (hk : k + 2 ≤ 64) : num ((b.drop k).take 2) = (b.getD k 0).toNat * 256 + (b.getD (k + 1) 0).toNat := by
  have h1 : k < b.length := by omega
  have h2 : k + 1 < b.length := by omega
  have e : (b.drop k).take 2 = [b[k], b[k + 1]] := by
    rw [List.drop_eq_getElem_cons h1, List.drop_eq_getElem_cons h2]
    rfl
  rw [e, num_two, List.getD_eq_getElem?_getD, List.getD_eq_getElem?_getD, List.getElem?_eq_getElem h1, List.getElem?_eq_getElem h2]
  rfl
/-- What the document refuses a part for, but bytes behind its own. -/
def BadD (e n c i : Int) (sz : Nat) : Prop := e < 1 ∨ 4611686018427387904 < e ∨ n < 1 ∨ 4611686018427387904 < n ∨ c < 1 ∨ 4096 < c ∨ c ≤ i ∨ 43 < sz ∨ (i < c - 1 ∧ sz < 43) ∨ (1 < c ∧ sz = 0)
instance (e n c i : Int) (sz : Nat) : Decidable (BadD e n c i sz) := by unfold BadD; infer_instance
theorem may_bad {b : Bt} (h64 : b.length = 64) (h43 : szS b ≤ 43) : (prtS b).may = decide (¬ BadD (prtS b).e (prtS b).n (prtS b).c (prtS b).i (szS b)) := by
  have hl : (prtS b).b.length = szS b := by
    show ((b.drop 21).take (szS b)).length = _
    simp
    omega
  obtain ⟨_, _, h3, h4, _⟩ := prtS_sm b h64
  unfold Prt.may stmpB Prt.last
  rw [hl]
  generalize (prtS b).e = e at *
  generalize (prtS b).n = n at *
  generalize (prtS b).c = c at *
  generalize (prtS b).i = i at *
  generalize szS b = sz at *
  rw [Bool.eq_iff_iff, decide_eq_true_eq (p := ¬ BadD e n c i sz)]
  by_cases hi : i = c - 1
  · simp only [hi, decide_true, if_true, Bool.and_eq_true, Bool.or_eq_true, Bool.not_eq_true', decide_eq_true_eq, decide_eq_false_iff_not, BadD]
    omega
  · have hd : decide (i = c - 1) = false := decide_eq_false hi
    rw [hd]
    simp only [Bool.false_eq_true, if_false, Bool.and_eq_true, Bool.not_eq_true', decide_eq_true_eq, decide_eq_false_iff_not, BadD]
    omega
theorem partS_bad {b : Bt} (h64 : b.length = 64) (h : BadD (prtS b).e (prtS b).n (prtS b).c (prtS b).i (szS b)) : (partS ⟨b, false⟩).2 = false := by
  unfold partS
  rw [if_neg (by simp [h64])]
  split
  · rfl
  · rename_i h1
    show (prtS b).may = false
    rw [may_bad h64 (by simp at h1; omega), decide_eq_false (by simpa using h)]
theorem partS_good {b : Bt} (h64 : b.length = 64) (h : ¬ BadD (prtS b).e (prtS b).n (prtS b).c (prtS b).i (szS b)) : szS b ≤ 43 ∧ (restS b ≠ [] → (partS ⟨b, false⟩).2 = false) ∧ (restS b = [] → partS ⟨b, false⟩ = (prtS b, true)) := by
  have h43 : szS b ≤ 43 := by unfold BadD at h; omega
  refine ⟨h43, fun hr => ?_, fun hr => ?_⟩
  · unfold partS
    rw [if_neg (by simp [h64]), if_pos (.inr hr)]
  · unfold partS
    rw [if_neg (by simp [h64]), if_neg (by rw [hr]; simp; omega), may_bad h64 h43, decide_eq_true h]
/-- Trimmed at a byte nothing is left just where all bytes are that one. -/
theorem trimB_nil (l : List UInt8) (c : UInt8) : Lib.trimB l c = [] ↔ ∀ x ∈ l, x = c := by
  have key : ∀ m : List UInt8, (∀ x ∈ m.dropWhile (· == c), x = c) → m.dropWhile (· == c) = [] := by
    intro m
    induction m with
    | nil => intro _; rfl
    | cons y r ih =>
      intro h
      rw [List.dropWhile_cons] at h ⊢
      split
      · rename_i h1
        rw [if_pos h1] at h
        exact ih h
      · rename_i h1
        rw [if_neg h1] at h
        exact absurd (by simp [h y (List.mem_cons_self ..)]) h1
  have nil : ∀ m : List UInt8, m.dropWhile (· == c) = [] ↔ ∀ x ∈ m, x = c := by
    intro m
    induction m with
    | nil => simp
    | cons y r ih =>
      rw [List.dropWhile_cons]
      by_cases h : y = c
      · simp [h, ih]
      · simp [h]
  unfold Lib.trimB Lib.trimLeftB Lib.trimRightB
  rw [nil]
  constructor
  · intro h
    have := (nil l.reverse).1 (key _ fun x hx => h x (List.mem_reverse.2 hx))
    exact fun x hx => this x (List.mem_reverse.2 hx)
  · intro h
    rw [(nil l.reverse).2 fun x hx => h x (List.mem_reverse.1 hx)]
    intro x hx
    cases hx
end Go.Proofs.YthmjejmignangaaGreatDoor
