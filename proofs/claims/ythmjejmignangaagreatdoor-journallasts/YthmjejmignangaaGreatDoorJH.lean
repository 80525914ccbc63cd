/- Layer 16: the part that a sector is. -/
import Derived.Test.YthmjejmignangaaGreatDoorEC
import Derived.Test.YthmjejmignangaaGreatDoorRE
import Derived.Test.YthmjejmignangaaGreatDoorShelfj
import Derived.Lib.ConvBytes
namespace Go.Proofs.YthmjejmignangaaGreatDoor
open Go.RowKit
theorem ofInt_j (n : Nat) (h : n < 18446744073709551616) : (BitVec.ofInt 64 (n : Int)).toNat = n := by
  rw [BitVec.toNat_ofInt]
  omega
theorem or_j (hi lo : Nat) (h1 : hi < 256) (h2 : lo < 256) : bits BinOp.or IntKind.i64 ((hi : Int) * 256) (lo : Int) = ((hi * 256 + lo : Nat) : Int) := by
  have e : (hi : Int) * 256 = ((hi * 256 : Nat) : Int) := by omega
  rw [e]
  show IntKind.i64.wrap ((BitVec.ofInt 64 ((hi * 256 : Nat) : Int) ||| BitVec.ofInt 64 (lo : Int)).toNat : Int) = _
  have e2 : (hi * 256 ||| lo) = hi * 256 + lo := by
    have := Nat.shiftLeft_add_eq_or_of_lt (b := lo) (i := 8) (by omega) hi
    rw [Nat.shiftLeft_eq] at this
    exact this.symm
  rw [BitVec.toNat_or, ofInt_j _ (by omega), ofInt_j _ (by omega), e2, IntKind.wrap_i64]
  omega
theorem short_any (p h g : Nat) (bs : Bt) (w : World) (H : RdS w p h g bs 0) (hl : 2 ≤ bs.length) : Calls Tryz.prog 71 #[.pointer (some ⟨p, 0, none⟩)] w fun e w' => e = .returned (.int .i64 (num (bs.take 2) : Nat)) ∧ RdS w' p h g (bs.drop 2) 0 ∧ Chg w w' (fun k => k = h) := by
  have h1 := rbyte_ok p h g bs w H (by omega)
  have HN : Hid (num (bs.take 2) = (bs[0]'(by omega)).toNat * 256 + (bs[1]'(by omega)).toNat) := hidb (by
    match bs, hl with
    | x :: y :: l, _ => exact num_two x y)
  have hx0 := (bs[0]'(by omega)).toNat_lt
  have hx1 := (bs[1]'(by omega)).toNat_lt
  have H1 := hidb h1
  have H2 : Hid (∀ W, RdS W p h g (bs.drop 1) 0 → Calls Tryz.prog 72 #[.pointer (some ⟨p, 0, none⟩)] W fun e w' => e = .returned (.int .i64 ((bs[1]'(by omega)).toNat : Nat)) ∧ RdS w' p h g (bs.drop 2) 0 ∧ Chg W w' (fun k => k = h)) := hidb fun W HW => by
    refine (rbyte_ok p h g (bs.drop 1) W HW (by simp; omega)).mono fun e w' ⟨e1, x, y⟩ => ⟨?_, ?_, y⟩
    · rw [e1]; simp
    · rw [List.drop_drop] at x; exact x
  clear h1 H
  generalize (bs[0]'(by omega)).toNat = a at *
  generalize (bs[1]'(by omega)).toNat = b at *
  have e3 : IntKind.i64.wrap ((a : Int) * 256) = (a : Int) * 256 := by rw [IntKind.wrap_i64]; omega
  go_enter Tryz.func71, Tryz.ntmps71
  go_wp2_with (first
    | (go_at_call 72; refine H1.out.mono ?_; clear H1; rintro e w1 ⟨rfl, hr1, hk1⟩)
    | (go_at_call 72; refine (H2.out _ hr1).mono ?_; clear H2; rintro e w2 ⟨rfl, hr2, hk2⟩)
    | fail)
  go_ret
  rw [HN.out, or_j a b (by omega) (by omega)]
  exact ⟨rfl, hr2, hk1.trans hk2 fun _ _ x => x⟩
def szS (b : Bt) : Nat := (b.getD 20 0).toNat
def restS (b : Bt) : Bt := Lib.trimB ((b.drop 21).drop (szS b)) 0
def prtS (b : Bt) : Prt := ⟨toInt (num (b.take 8)), toInt (num ((b.drop 8).take 8)), (num ((b.drop 18).take 2) : Nat), (num ((b.drop 16).take 2) : Nat), (b.drop 21).take (szS b)⟩
/-- What a sector tells. -/
def partS (s : Sec) : Prt × Bool := if s.bad = true ∨ s.b.length ≠ 64 then (noPrt, false) else if 43 < szS s.b ∨ restS s.b ≠ [] then (noPrt, false) else (prtS s.b, (prtS s.b).may)
theorem num_two_le (l : Bt) (h : l.length = 2) : num l ≤ 65535 := by
  match l, h with
  | [x, y], _ =>
    rw [num_two]
    have := x.toNat_lt
    have := y.toNat_lt
    omega
theorem toInt_range (n : Nat) (h : n < 18446744073709551616) : -9223372036854775808 ≤ toInt n ∧ toInt n ≤ 9223372036854775807 := by
  unfold toInt
  split <;> omega
theorem prtS_sm (b : Bt) (h : b.length = 64) : (prtS b).sm := by
  have h1 := num_two_le ((b.drop 18).take 2) (by simp; omega)
  have h2 := num_two_le ((b.drop 16).take 2) (by simp; omega)
  refine ⟨toInt_range _ (num_lt _), toInt_range _ (num_lt _), ?_, ?_, ?_⟩
  · show 0 ≤ ((num ((b.drop 18).take 2) : Nat) : Int) ∧ ((num ((b.drop 18).take 2) : Nat) : Int) ≤ 65535; omega
  · show 0 ≤ ((num ((b.drop 16).take 2) : Nat) : Int) ∧ ((num ((b.drop 16).take 2) : Nat) : Int) ≤ 65535; omega
  · show ((b.drop 21).take (szS b)).length ≤ _
    simp; omega
theorem load_part {w : World} {b : Nat} {p : Prt} (h : w.heap[b]? = some (.cells #[.int .i64 p.e, .int .i64 p.n, .int .i64 p.c, .int .i64 p.i, sv p.b] 71 (0, 0))) : (loadVar 71 ⟨b, 0, none⟩).run Tryz.prog w = .ok p.v w := by
  obtain ⟨x0, x1, x2, x3, x4, _⟩ := part_cells h
  simp [loadVar, go_sem, x0, x1, x2, x3, x4, Prt.v]
theorem results_mix {fn : Func} {t u : Tmp} {ty : TypeId} (h : fn.results = #[.cell t ty, .tmp u]) (tmps : Array Value) (P : Program) (w : World) (a : Addr) (v : Value) (ha : tmps[t]?.getD undef = .pointer (some a)) (hl : (loadVar ty a).run P w = .ok v w) :
    (results fn tmps).run P w = .ok (.tuple #[v, tmps[u]?.getD undef]) w := by
  simp [results, h, ha, asAddr, hl]
/-- The result's cells. -/
theorem ret_part {fn : Func} {W : World} {a : Act} {t u : Tmp} {b : Nat} {p : Prt} {ok : Bool} {Q : Ending → World → Prop} (hb : W.heap[b]? = some (.cells #[.int .i64 p.e, .int .i64 p.n, .int .i64 p.c, .int .i64 p.i, sv p.b] 71 (0, 0))) (h : fn.results = #[.cell t 71, .tmp u]) (ha : a.tmps[t]?.getD undef = .pointer (some ⟨b, 0, none⟩)) (hd : a.defers = []) (hu : a.tmps[u]?.getD undef = .bool ok) (hQ : Q (.returned (.tuple #[p.v, .bool ok])) W) : bodyPost Tryz.prog fn Q .ret a W := by
  refine bodyPost_ret (by rw [results_mix h _ _ _ _ _ ha (load_part hb), hu]) hd hQ
theorem cut_j (l : List UInt8) (p q : Nat) : (⟨l.toArray⟩ : ByteArray).extract p q = ⟨((l.take q).drop p).toArray⟩ := by
  apply ByteArray.ext
  rw [ByteArray.data_extract]
  simp [List.extract_eq_take_drop, List.drop_take]
theorem bytes_below (W : World) (e : TypeId) (x : ByteArray) : Below W.heap.size W (Lib.bytesWorld W e x) := ⟨rfl, rfl, rfl, by rw [Lib.bytesWorld_size]; omega, fun k hk => Lib.bytesWorld_at_old W e x k hk⟩
/-- While a part is read. -/
structure PO (w : World) (pb h g : Nat) (p : Prt) (bs : Bt) (W : World) : Prop where
  rd : RdS W (h + 1) h g bs 0
  res : W.heap[w.heap.size + 1]? = some (.cells #[.int .i64 0, .int .i64 0, .int .i64 0, .int .i64 0, .string ⟨#[]⟩] 71 (0, 0))
  bx : W.heap[pb]? = some (.cells #[.int .i64 p.e, .int .i64 p.n, .int .i64 p.c, .int .i64 p.i, sv p.b] 71 (0, 0))
  bl : Below w.heap.size w W
  ph : h + 1 < pb
  gh : g < h
  wg : w.heap.size + 1 < g
theorem PO.call {w : World} {pb h g : Nat} {p : Prt} {bs bs' : Bt} {W W' : World} (H : PO w pb h g p bs W) (r : RdS W' (h + 1) h g bs' 0) (k : Chg W W' (fun k => k = h)) : PO w pb h g p bs' W' := by
  have := H.ph; have := H.gh; have := H.wg
  exact ⟨r, (k.block _ (heap_ltb H.res) (by omega)).trans H.res, (k.block _ (heap_ltb H.bx) (by omega)).trans H.bx, H.bl.trans (k.below (Nat.le_trans H.bl.size (Nat.le_refl _)) (fun i e => by omega)), H.ph, H.gh, H.wg⟩
theorem PO.set {w : World} {pb h g : Nat} {p p' : Prt} {bs : Bt} {W : World} (H : PO w pb h g p bs W) (j : Nat) (v : Value) (hb : (W.setCell ⟨pb, j, none⟩ v).heap[pb]? = some (.cells #[.int .i64 p'.e, .int .i64 p'.n, .int .i64 p'.c, .int .i64 p'.i, sv p'.b] 71 (0, 0))) : PO w pb h g p' bs (W.setCell ⟨pb, j, none⟩ v) := by
  have := H.ph; have := H.gh; have := H.wg
  have k := Chg.setCell W ⟨pb, j, none⟩ v
  exact ⟨H.rd.chg k (by show ¬ h + 1 = pb; omega) (by show ¬ h = pb; omega) (by show ¬ g = pb; omega), (k.block _ (heap_ltb H.res) (by show ¬ w.heap.size + 1 = pb; omega)).trans H.res, hb, H.bl.trans (k.below H.bl.size (fun i e => by have e : i = pb := e; omega)), H.ph, H.gh, H.wg⟩
theorem PO.cells {w : World} {pb h g : Nat} {p : Prt} {bs : Bt} {W : World} (H : PO w pb h g p bs W) : W.cell? ⟨pb, 0, none⟩ = some (.int .i64 p.e) ∧ W.cell? ⟨pb, 1, none⟩ = some (.int .i64 p.n) ∧ W.cell? ⟨pb, 2, none⟩ = some (.int .i64 p.c) ∧ W.cell? ⟨pb, 3, none⟩ = some (.int .i64 p.i) ∧ W.cell? ⟨pb, 4, none⟩ = some (sv p.b) ∧ W.frozen? ⟨pb, 0, none⟩ = false ∧ W.frozen? ⟨pb, 1, none⟩ = false ∧ W.frozen? ⟨pb, 2, none⟩ = false ∧ W.frozen? ⟨pb, 3, none⟩ = false ∧ W.frozen? ⟨pb, 4, none⟩ = false :=
  ⟨Lib.cell_of_heap H.bx 0, Lib.cell_of_heap H.bx 1, Lib.cell_of_heap H.bx 2, Lib.cell_of_heap H.bx 3, Lib.cell_of_heap H.bx 4, Lib.frozen_of_heap H.bx 0, Lib.frozen_of_heap H.bx 1, Lib.frozen_of_heap H.bx 2, Lib.frozen_of_heap H.bx 3, Lib.frozen_of_heap H.bx 4⟩
theorem PO.rcells {w : World} {pb h g : Nat} {p : Prt} {bs : Bt} {W : World} (H : PO w pb h g p bs W) : W.cell? ⟨w.heap.size + 1, 0, none⟩ = some (.int .i64 0) ∧ W.cell? ⟨w.heap.size + 1, 1, none⟩ = some (.int .i64 0) ∧ W.cell? ⟨w.heap.size + 1, 2, none⟩ = some (.int .i64 0) ∧ W.cell? ⟨w.heap.size + 1, 3, none⟩ = some (.int .i64 0) ∧ W.cell? ⟨w.heap.size + 1, 4, none⟩ = some (.string ⟨#[]⟩) ∧ W.frozen? ⟨w.heap.size + 1, 0, none⟩ = false ∧ W.frozen? ⟨w.heap.size + 1, 1, none⟩ = false ∧ W.frozen? ⟨w.heap.size + 1, 2, none⟩ = false ∧ W.frozen? ⟨w.heap.size + 1, 3, none⟩ = false ∧ W.frozen? ⟨w.heap.size + 1, 4, none⟩ = false :=
  ⟨Lib.cell_of_heap H.res 0, Lib.cell_of_heap H.res 1, Lib.cell_of_heap H.res 2, Lib.cell_of_heap H.res 3, Lib.cell_of_heap H.res 4, Lib.frozen_of_heap H.res 0, Lib.frozen_of_heap H.res 1, Lib.frozen_of_heap H.res 2, Lib.frozen_of_heap H.res 3, Lib.frozen_of_heap H.res 4⟩
theorem PO.below {w : World} {pb h g : Nat} {p : Prt} {bs : Bt} {W W' : World} (H : PO w pb h g p bs W) (b : Below W.heap.size W W') : PO w pb h g p bs W' := by
  obtain ⟨⟨ao, cap, hE, _⟩, _⟩ := H.rd
  have k : Chg W W' (fun _ => False) := Chg.of_below b
  exact ⟨H.rd.chg k (fun x => x) (fun x => x) (fun x => x), (b.block _ (heap_ltb H.res)).trans H.res, (b.block _ (heap_ltb H.bx)).trans H.bx, H.bl.trans (b.mono H.bl.size), H.ph, H.gh, H.wg⟩
theorem PO.two {w : World} {pb h g : Nat} {p : Prt} {bs : Bt} {W : World} (H : PO w pb h g p bs W) (x y : Int) : PO w pb h g ⟨x, y, p.c, p.i, p.b⟩ bs ((W.setCell ⟨pb, 0, none⟩ (.int .i64 x)).setCell ⟨pb, 1, none⟩ (.int .i64 y)) :=
  (H.set (p' := ⟨x, p.n, p.c, p.i, p.b⟩) 0 _ ((heap_setCell_same _ _ _ _ _ _ H.bx).trans rfl)).set 1 _ ((heap_setCell_same _ _ _ _ _ _ ((heap_setCell_same _ _ _ _ _ _ H.bx).trans rfl)).trans rfl)
theorem PO.two2 {w : World} {pb h g : Nat} {p : Prt} {bs : Bt} {W : World} (H : PO w pb h g p bs W) (x y : Int) : PO w pb h g ⟨p.e, p.n, y, x, p.b⟩ bs ((W.setCell ⟨pb, 3, none⟩ (.int .i64 x)).setCell ⟨pb, 2, none⟩ (.int .i64 y)) :=
  (H.set (p' := ⟨p.e, p.n, p.c, x, p.b⟩) 3 _ ((heap_setCell_same _ _ _ _ _ _ H.bx).trans rfl)).set 2 _ ((heap_setCell_same _ _ _ _ _ _ ((heap_setCell_same _ _ _ _ _ _ H.bx).trans rfl)).trans rfl)
theorem PO.int {w : World} {pb h g : Nat} {p : Prt} {bs : Bt} {W : World} (H : PO w pb h g p bs W) (hl : 8 ≤ bs.length) : Calls Tryz.prog 70 #[.pointer (some ⟨h + 1, 0, none⟩)] W fun e w' => e = .returned (.int .i64 (toInt (num (bs.take 8)))) ∧ PO w pb h g p (bs.drop 8) w' :=
  (rint_ok _ _ _ _ _ H.rd hl).mono fun _ _ ⟨e, r, k⟩ => ⟨e, H.call r k⟩
theorem PO.short {w : World} {pb h g : Nat} {p : Prt} {bs : Bt} {W : World} (H : PO w pb h g p bs W) (hl : 2 ≤ bs.length) : Calls Tryz.prog 71 #[.pointer (some ⟨h + 1, 0, none⟩)] W fun e w' => e = .returned (.int .i64 (num (bs.take 2) : Nat)) ∧ PO w pb h g p (bs.drop 2) w' :=
  (short_any _ _ _ _ _ H.rd hl).mono fun _ _ ⟨e, r, k⟩ => ⟨e, H.call r k⟩
theorem PO.byte {w : World} {pb h g : Nat} {p : Prt} {bs : Bt} {W : World} (H : PO w pb h g p bs W) (hl : 1 ≤ bs.length) : Calls Tryz.prog 72 #[.pointer (some ⟨h + 1, 0, none⟩)] W fun e w' => e = .returned (.int .i64 ((bs[0]'(by omega)).toNat : Nat)) ∧ PO w pb h g p (bs.drop 1) w' :=
  (rbyte_ok _ _ _ _ _ H.rd hl).mono fun _ _ ⟨e, r, k⟩ => ⟨e, H.call r k⟩
theorem set5p {W : World} {q : Nat} {a0 a1 a2 a3 a4 v0 v1 v2 v3 v4 : Value} (h : W.heap[q]? = some (.cells #[a0, a1, a2, a3, a4] 71 (0, 0))) : (((((W.setCell ⟨q, 0, none⟩ v0).setCell ⟨q, 1, none⟩ v1).setCell ⟨q, 2, none⟩ v2).setCell ⟨q, 3, none⟩ v3).setCell ⟨q, 4, none⟩ v4).heap[q]? = some (.cells #[v0, v1, v2, v3, v4] 71 (0, 0)) :=
  (heap_setCell_same _ _ _ _ _ _ ((heap_setCell_same _ _ _ _ _ _ ((heap_setCell_same _ _ _ _ _ _ ((heap_setCell_same _ _ _ _ _ _ ((heap_setCell_same _ _ _ _ _ _ h).trans rfl)).trans rfl)).trans rfl)).trans rfl)).trans rfl
theorem below5 {n q : Nat} {w W : World} (h : Below n w W) (hq : n ≤ q) (v0 v1 v2 v3 v4 : Value) : Below n w (((((W.setCell ⟨q, 0, none⟩ v0).setCell ⟨q, 1, none⟩ v1).setCell ⟨q, 2, none⟩ v2).setCell ⟨q, 3, none⟩ v3).setCell ⟨q, 4, none⟩ v4) :=
  ((((h.setCell (p := ⟨q, 0, none⟩) hq v0).setCell (p := ⟨q, 1, none⟩) hq v1).setCell (p := ⟨q, 2, none⟩) hq v2).setCell (p := ⟨q, 3, none⟩) hq v3).setCell (p := ⟨q, 4, none⟩) hq v4
theorem PO.bytes {w : World} {pb h g : Nat} {p : Prt} {bs : Bt} {W : World} (H : PO w pb h g p bs W) (x : Bt) : PO w pb h g ⟨p.e, p.n, p.c, p.i, x⟩ bs (W.setCell ⟨pb, 4, none⟩ (sv x)) :=
  H.set (p' := ⟨p.e, p.n, p.c, p.i, x⟩) 4 _ ((heap_setCell_same _ _ _ _ _ _ H.bx).trans rfl)
set_option maxHeartbeats 4000000 in
set_option maxRecDepth 100000 in
theorem partOf_any (s : Sec) (hs : s.b.length ≤ 9223372036854775807) (w : World) : Calls Tryz.prog 49 #[.agg #[sv s.b, .bool s.bad]] w fun e w' => e = .returned (.tuple #[(partS s).1.v, .bool (partS s).2]) ∧ Below w.heap.size w w' := by
  obtain ⟨b, bad⟩ := s
  simp only at hs
  have hb1 : Below w.heap.size w (w.alloc (.cells #[sv b, .bool bad] 76)) := (Below.refl _ w).alloc (Nat.le_refl _) _
  have hb2 : Below w.heap.size w ((w.alloc (.cells #[sv b, .bool bad] 76)).alloc (.cells #[.int .i64 0, .int .i64 0, .int .i64 0, .int .i64 0, .string ⟨#[]⟩] 71)) := hb1.alloc hb1.size _
  have hbx := heap_alloc_new (w.alloc (.cells #[sv b, .bool bad] 76)) (.cells #[.int .i64 0, .int .i64 0, .int .i64 0, .int .i64 0, .string ⟨#[]⟩] 71)
  rw [World.size_alloc] at hbx
  by_cases hok : bad = true ∨ b.length ≠ 64
  · have HP : Hid (partS ⟨b, bad⟩ = (noPrt, false)) := hidb (by unfold partS; rw [if_pos hok])
    rw [HP.out]
    cases bad with
    | true =>
      go_enter Tryz.func49, Tryz.ntmps49
      go_wp2_with fail
      exact ret_part (p := noPrt) hbx rfl rfl rfl rfl ⟨rfl, hb2⟩
    | false =>
      have hne : ((b.length : Int) == 64) = false := by simp at hok ⊢; omega
      clear hok
      go_enter Tryz.func49, Tryz.ntmps49
      go_wp2_with fail
      exact ret_part (p := noPrt) hbx rfl rfl rfl rfl ⟨rfl, hb2⟩
  · obtain ⟨hbad, h64⟩ : bad = false ∧ b.length = 64 := by cases bad <;> simp_all
    subst hbad
    have HP : Hid (partS ⟨b, false⟩ = if 43 < szS b ∨ restS b ≠ [] then (noPrt, false) else (prtS b, (prtS b).may)) := hidb (by unfold partS; rw [if_neg hok])
    have heq : ((b.length : Int) == 64) = true := by simp; omega
    have e1 : (⟨b.toArray⟩ : ByteArray).extract 0 21 = ⟨(b.take 21).toArray⟩ := by rw [cut_j]; rfl
    have e2 : (⟨b.toArray⟩ : ByteArray).extract 21 b.length = ⟨(b.drop 21).toArray⟩ := by rw [cut_j, List.take_length]
    have hq1 : (21 : Int) ≤ (b.length : Int) := by omega
    have hq2 : 21 ≤ b.length := by omega
    have H64 := hidb h64
    clear hok h64
    go_enter Tryz.func49, Tryz.ntmps49
    go_wp2_with fail
    go_quiet (fail)
    go_wp2_with fail
    obtain ⟨W3, hW3⟩ : ∃ W3, W3 = ((w.alloc (.cells #[sv b, .bool false] 76)).alloc (.cells #[.int .i64 0, .int .i64 0, .int .i64 0, .int .i64 0, .string ⟨#[]⟩] 71)).drewN nq := ⟨_, rfl⟩
    rw [← hW3]
    have hb3 : Below w.heap.size w W3 := by rw [hW3]; exact hb2.trans ⟨rfl, rfl, rfl, Nat.le_refl _, fun _ _ => rfl⟩
    have hx3 : W3.heap[w.heap.size + 1]? = some (.cells #[.int .i64 0, .int .i64 0, .int .i64 0, .int .i64 0, .string ⟨#[]⟩] 71 (0, 0)) := by rw [hW3]; exact hbx
    have hz3 : w.heap.size + 1 < W3.heap.size := heap_ltb hx3
    clear hW3 hbx hb1 hb2
    rw [Lib.run_convert_string_bytes W3 9 29 5 ⟨(b.take 21).toArray⟩ Tryz.underlying9 Tryz.underlying29 Tryz.underlying5]
    obtain ⟨hd, hhd⟩ : ∃ hd, hd = b.take 21 := ⟨_, rfl⟩
    have hdl : hd.length = 21 := by rw [hhd]; simp; have := H64.out; omega
    rw [← hhd]
    have hsz : (⟨hd.toArray⟩ : ByteArray).size = 21 := by show hd.toArray.size = 21; simpa using hdl
    have hBs : Bs (Lib.bytesWorld W3 5 ⟨hd.toArray⟩) (some ⟨W3.heap.size, 0, none⟩) hd := .inr ⟨_, 0, rfl, fun j h => by
      rw [Nat.zero_add, Lib.bytesWorld_cell W3 _ _ j (by omega)]
      simp [List.getD_eq_getElem?_getD, h]⟩
    have hb4 := bytes_below W3 5 ⟨hd.toArray⟩
    rw [hsz]
    have HNR := hidb (rnew_any (some ⟨W3.heap.size, 0, none⟩) 21 (grownCap W3 21 0 5) hd _ hdl (by omega) hBs)
    generalize grownCap W3 21 0 5 = cp at *
    generalize Lib.bytesWorld W3 5 ⟨hd.toArray⟩ = W4 at *
    have hx4 := (hb4.block _ hz3).trans hx3
    have HPO : Hid (∀ W5 h, W4.heap.size < h → RdS W5 (h + 1) h W4.heap.size hd 0 → Below W4.heap.size W4 W5 → PO w W5.heap.size h W4.heap.size noPrt hd (W5.alloc (.cells #[.int .i64 0, .int .i64 0, .int .i64 0, .int .i64 0, .string ⟨#[]⟩] 71))) := hidb fun W5 h hg hr hb5 => by
      have hlt : h + 1 < W5.heap.size := by
        obtain ⟨⟨ao, cap, hE, _⟩, _⟩ := hr
        exact heap_ltb hE.1
      have hba : Below W5.heap.size W5 (W5.alloc (.cells #[.int .i64 0, .int .i64 0, .int .i64 0, .int .i64 0, .string ⟨#[]⟩] 71)) := (Below.refl _ W5).alloc (Nat.le_refl _) _
      have hb5w : Below w.heap.size w W5 := (hb3.trans (hb4.mono hb3.size)).trans (hb5.mono (Nat.le_trans hb3.size hb4.size))
      exact ⟨hr.chg (Chg.alloc W5 _ (fun _ => False)) (fun x => x) (fun x => x) (fun x => x), (hba.block _ (by have := hb4.size; have := hb5.size; omega)).trans ((hb5.block _ (by have := hb4.size; omega)).trans hx4), heap_alloc_new W5 _, hb5w.trans (hba.mono hb5w.size), hlt, hg, by have := hb4.size; omega⟩
    have HI1 : Hid (∀ W q k g p, PO w q k g p hd W → Calls Tryz.prog 70 #[.pointer (some ⟨k + 1, 0, none⟩)] W fun e w' => e = .returned (.int .i64 (prtS b).e) ∧ PO w q k g p (hd.drop 8) w') := hidb fun W q k g p H => by
      refine (H.int (by omega)).mono fun e w' ⟨e1, r⟩ => ⟨?_, r⟩
      rw [e1, hhd, List.take_take]; rfl
    have HI2 : Hid (∀ W q k g p, PO w q k g p (hd.drop 8) W → Calls Tryz.prog 70 #[.pointer (some ⟨k + 1, 0, none⟩)] W fun e w' => e = .returned (.int .i64 (prtS b).n) ∧ PO w q k g p (hd.drop 16) w') := hidb fun W q k g p H => by
      refine (H.int (by simp; omega)).mono fun e w' ⟨e1, r⟩ => ⟨?_, by rw [List.drop_drop] at r; exact r⟩
      rw [e1, hhd, List.drop_take, List.take_take]; rfl
    have HS1 : Hid (∀ W q k g p, PO w q k g p (hd.drop 16) W → Calls Tryz.prog 71 #[.pointer (some ⟨k + 1, 0, none⟩)] W fun e w' => e = .returned (.int .i64 (prtS b).i) ∧ PO w q k g p (hd.drop 18) w') := hidb fun W q k g p H => by
      refine (H.short (by simp; omega)).mono fun e w' ⟨e1, r⟩ => ⟨?_, by rw [List.drop_drop] at r; exact r⟩
      rw [e1, hhd, List.drop_take, List.take_take]; rfl
    have HS2 : Hid (∀ W q k g p, PO w q k g p (hd.drop 18) W → Calls Tryz.prog 71 #[.pointer (some ⟨k + 1, 0, none⟩)] W fun e w' => e = .returned (.int .i64 (prtS b).c) ∧ PO w q k g p (hd.drop 20) w') := hidb fun W q k g p H => by
      refine (H.short (by simp; omega)).mono fun e w' ⟨e1, r⟩ => ⟨?_, by rw [List.drop_drop] at r; exact r⟩
      rw [e1, hhd, List.drop_take, List.take_take]; rfl
    have HBy : Hid (∀ W q k g p, PO w q k g p (hd.drop 20) W → Calls Tryz.prog 72 #[.pointer (some ⟨k + 1, 0, none⟩)] W fun e w' => e = .returned (.int .i64 (szS b : Nat)) ∧ PO w q k g p (hd.drop 21) w') := hidb fun W q k g p H => by
      refine (H.byte (by simp; omega)).mono fun e w' ⟨e1, r⟩ => ⟨?_, by rw [List.drop_drop] at r; exact r⟩
      rw [e1]
      have : (hd.drop 20)[0]'(by simp; omega) = b.getD 20 0 := by
        have h64 := H64.out
        rw [List.getElem_drop]
        simp only [hhd, List.getElem_take]
        rw [List.getD_eq_getElem?_getD, List.getElem?_eq_getElem (by omega)]
        rfl
      rw [this]
      rfl
    obtain ⟨bd, hbd⟩ : ∃ bd, bd = b.drop 21 := ⟨_, rfl⟩
    have hbl : bd.length = 43 := by rw [hbd]; simp; have := H64.out; omega
    have hsm := prtS_sm b H64.out
    have HMy : Hid (∀ W, Calls Tryz.prog 74 #[.agg #[.int .i64 (prtS b).e, .int .i64 (prtS b).n, .int .i64 (prtS b).c, .int .i64 (prtS b).i, sv (prtS b).b]] W fun e w' => e = .returned (.bool (prtS b).may) ∧ Below W.heap.size W w') := hidb (may_any _ hsm)
    have hpb : (prtS b).b = bd.take (szS b) := by rw [hbd]; rfl
    have hrs : restS b = Lib.trimB (bd.drop (szS b)) 0 := by rw [hbd]; rfl
    rw [← hbd]
    rw [← hbd] at e2
    have HTr : Hid (∀ W, Calls Tryz.prog 73 #[.string ⟨(bd.drop (szS b)).toArray⟩, .string ⟨#[0]⟩] W fun e w' => e = .returned (.string ⟨(restS b).toArray⟩) ∧ Below W.heap.size W w') := hidb fun W => by
      refine (Tryz.strings_Trim_one ⟨(bd.drop (szS b)).toArray⟩ 0 (by decide) W (by show (bd.drop (szS b)).toArray.size ≤ _; simp; omega)).mono fun e w' ⟨e1, hw⟩ => ⟨by rw [e1, hrs], ?_⟩
      rcases hw with rfl | rfl
      · exact Below.refl _ _
      · exact (Below.refl _ _).drew
    have e3 : (⟨bd.toArray⟩ : ByteArray).extract 0 (szS b) = ⟨(prtS b).b.toArray⟩ := by rw [cut_j, hpb]; rfl
    have e4 : (⟨bd.toArray⟩ : ByteArray).extract (szS b) bd.length = ⟨(bd.drop (szS b)).toArray⟩ := by rw [cut_j, List.take_length]
    have hsb : (b.getD 20 0).toNat < 256 := (b.getD 20 0).toNat_lt
    have hs256 : szS b < 256 := hsb
    clear hsb hpb hrs hhd hdl hbd hsm hBs hsz
    generalize restS b = rs at *
    generalize (prtS b).may = my at *
    generalize prtS b = pp at *
    generalize szS b = sz at *
    obtain ⟨pe, pn, pc, pi, pt⟩ := pp
    simp only at HI1 HI2 HS1 HS2 HMy e3
    have hbl2 : 43 ≤ bd.length := by omega
    have hbl3 : (43 : Int) ≤ (bd.length : Int) := by omega
    clear hbl
    clear hx3 hx4 hz3 hb3 hb4 e1 e2 hq1 hq2 heq
    have HR1 : Hid ((43 < sz ∨ rs ≠ []) → partS ⟨b, false⟩ = (noPrt, false)) := hidb fun h => by rw [HP.out, if_pos h]
    have HR2 : Hid (¬ (43 < sz ∨ rs ≠ []) → partS ⟨b, false⟩ = (⟨pe, pn, pc, pi, pt⟩, my)) := hidb fun h => by rw [HP.out, if_neg h]
    clear HP
    by_cases h43 : 43 < sz
    · have HE := hidb (HR1.out (.inl h43))
      have hd43 : decide ((43 : Int) < (sz : Int)) = true := by simp; omega
      clear HR1 HR2 HTr HMy e3 e4
      go_wp2_with (first
        | (go_at_call 69; refine HNR.out.mono ?_; clear HNR; rintro e w5 ⟨h, rfl, hg5, hr5, hb5⟩; have hP0 := HPO.out w5 h hg5 hr5 hb5; clear HPO hg5 hr5 hb5)
        | (go_at_call 70; refine (HI1.out _ _ _ _ _ hP0).mono ?_; clear HI1; rintro e w7 ⟨rfl, hP1⟩; clear hP0)
        | (go_at_call 70; refine (HI2.out _ _ _ _ _ hP1).mono ?_; clear HI2; rintro e w8 ⟨rfl, hP2⟩; obtain ⟨x0, x1, x2, x3, x4, f0, f1, f2, f3, f4⟩ := hP2.cells; have hP3 := hP2.two pe pn; clear hP1 hP2)
        | (go_at_call 71; refine (HS1.out _ _ _ _ _ hP3).mono ?_; clear HS1; rintro e w9 ⟨rfl, hP4⟩; clear hP3)
        | (go_at_call 71; refine (HS2.out _ _ _ _ _ hP4).mono ?_; clear HS2; rintro e w10 ⟨rfl, hP5⟩; obtain ⟨y0, y1, y2, y3, y4, g0, g1, g2, g3, g4⟩ := hP5.cells; have hP6 := hP5.two2 pi pc; clear hP4 hP5)
        | (go_at_call 72; refine (HBy.out _ _ _ _ _ hP6).mono ?_; clear HBy; rintro e w11 ⟨rfl, hP7⟩; obtain ⟨z0, z1, z2, z3, z4, r0, r1, r2, r3, r4⟩ := hP7.rcells; clear hP6)
        | fail)
      exact ret_part (p := noPrt) (set5p hP7.res) rfl rfl rfl rfl ⟨by rw [HE.out], below5 hP7.bl (by omega) _ _ _ _ _⟩
    · have hd43 : decide ((43 : Int) < (sz : Int)) = false := by simp; omega
      have hsl1 : (sz : Int) ≤ (bd.length : Int) := by omega
      have hsl2 : sz ≤ bd.length := by omega
      by_cases hrs : rs = []
      · subst hrs
        have HE := hidb (HR2.out (by simp; omega))
        have HM2 : Hid (∀ q k g bs W, PO w q k g ⟨pe, pn, pc, pi, pt⟩ bs W → Calls Tryz.prog 74 #[.agg #[.int .i64 pe, .int .i64 pn, .int .i64 pc, .int .i64 pi, sv pt]] W fun e w' => e = .returned (.bool my) ∧ Hid (w'.heap[w.heap.size + 1]? = some (.cells #[.int .i64 0, .int .i64 0, .int .i64 0, .int .i64 0, .string ⟨#[]⟩] 71 (0, 0)) ∧ w'.heap[q]? = some (.cells #[.int .i64 pe, .int .i64 pn, .int .i64 pc, .int .i64 pi, sv pt] 71 (0, 0)) ∧ Below w.heap.size w w')) := hidb fun q k g bs W H => (HMy.out W).mono fun e w' ⟨e1, hb⟩ => ⟨e1, hidb ⟨(hb.block _ (heap_ltb H.res)).trans H.res, (hb.block _ (heap_ltb H.bx)).trans H.bx, H.bl.trans (hb.mono H.bl.size)⟩⟩
        clear HR1 HR2 HMy
        go_wp2_with (first
          | (go_at_call 69; refine HNR.out.mono ?_; clear HNR; rintro e w5 ⟨h, rfl, hg5, hr5, hb5⟩; have hP0 := HPO.out w5 h hg5 hr5 hb5; clear HPO hg5 hr5 hb5)
          | (go_at_call 70; refine (HI1.out _ _ _ _ _ hP0).mono ?_; clear HI1; rintro e w7 ⟨rfl, hP1⟩; clear hP0)
          | (go_at_call 70; refine (HI2.out _ _ _ _ _ hP1).mono ?_; clear HI2; rintro e w8 ⟨rfl, hP2⟩; obtain ⟨x0, x1, x2, x3, x4, f0, f1, f2, f3, f4⟩ := hP2.cells; have hP3 := hP2.two pe pn; clear hP1 hP2)
          | (go_at_call 71; refine (HS1.out _ _ _ _ _ hP3).mono ?_; clear HS1; rintro e w9 ⟨rfl, hP4⟩; clear hP3)
          | (go_at_call 71; refine (HS2.out _ _ _ _ _ hP4).mono ?_; clear HS2; rintro e w10 ⟨rfl, hP5⟩; obtain ⟨y0, y1, y2, y3, y4, g0, g1, g2, g3, g4⟩ := hP5.cells; have hP6 := hP5.two2 pi pc; clear hP4 hP5)
          | (go_at_call 72; refine (HBy.out _ _ _ _ _ hP6).mono ?_; clear HBy; rintro e w11 ⟨rfl, hP7⟩; obtain ⟨z0, z1, z2, z3, z4, r0, r1, r2, r3, r4⟩ := hP7.rcells; clear hP6)
          | (go_at_call 73; refine (HTr.out _).mono ?_; clear HTr; rintro e w12 ⟨rfl, hb12⟩; have hP8 := hP7.below hb12; obtain ⟨u0, u1, u2, u3, u4, s0, s1, s2, s3, s4⟩ := hP8.cells)
          | fail)
        have hP9 := hP8.bytes pt
        obtain ⟨W9, hW9⟩ : ∃ W9, W9 = w12.setCell ⟨w5.heap.size, 4, none⟩ (.string ⟨pt.toArray⟩) := ⟨_, rfl⟩
        replace hP9 : PO w w5.heap.size h W4.heap.size ⟨pe, pn, pc, pi, pt⟩ (hd.drop 21) W9 := by rw [hW9]; exact hP9
        rw [← hW9]
        have hP10 := hP9.below (W' := W9.drew) ⟨rfl, rfl, rfl, Nat.le_refl _, fun _ _ => rfl⟩
        obtain ⟨a0, a1, a2, a3, a4, _⟩ := hP9.cells
        simp only at a0 a1 a2 a3 a4
        have HM3 := hidb (HM2.out _ _ _ _ _ hP10)
        clear HM2 hP7 hP8 hP9 hP10 hW9 x0 x1 x2 x3 x4 f0 f1 f2 f3 f4 y0 y1 y2 y3 y4 g0 g1 g2 g3 g4 z0 z1 z2 z3 z4 r0 r1 r2 r3 r4 u0 u1 u2 u3 u4 s0 s1 s2 s3 s4
        go_region_with (first
          | (go_at_call 74; refine HM3.out.mono ?_; clear HM3; rintro e w13 ⟨rfl, HW⟩; obtain ⟨v0, v1, v2, v3, v4, _⟩ := part_cells (p := ⟨pe, pn, pc, pi, pt⟩) HW.out.2.1; obtain ⟨t0, t1, t2, t3, t4, _⟩ := part_cells (p := noPrt) HW.out.1; have s0 := Lib.frozen_of_heap HW.out.1 0; have s1 := Lib.frozen_of_heap HW.out.1 1; have s2 := Lib.frozen_of_heap HW.out.1 2; have s3 := Lib.frozen_of_heap HW.out.1 3; have s4 := Lib.frozen_of_heap HW.out.1 4; simp only at v0 v1 v2 v3 v4)
          | fail)
        all_goals (
          go_wp2_with fail
          exact ret_part (p := ⟨pe, pn, pc, pi, pt⟩) (set5p HW.out.1) rfl rfl rfl rfl ⟨by rw [HE.out], below5 HW.out.2.2 (by omega) _ _ _ _ _⟩)
      · have HE := hidb (HR1.out (.inr hrs))
        have hrq : (rs == []) = false := by simpa using hrs
        clear HR1 HR2 HMy e3
        go_wp2_with (first
          | (go_at_call 69; refine HNR.out.mono ?_; clear HNR; rintro e w5 ⟨h, rfl, hg5, hr5, hb5⟩; have hP0 := HPO.out w5 h hg5 hr5 hb5; clear HPO hg5 hr5 hb5)
          | (go_at_call 70; refine (HI1.out _ _ _ _ _ hP0).mono ?_; clear HI1; rintro e w7 ⟨rfl, hP1⟩; clear hP0)
          | (go_at_call 70; refine (HI2.out _ _ _ _ _ hP1).mono ?_; clear HI2; rintro e w8 ⟨rfl, hP2⟩; obtain ⟨x0, x1, x2, x3, x4, f0, f1, f2, f3, f4⟩ := hP2.cells; have hP3 := hP2.two pe pn; clear hP1 hP2)
          | (go_at_call 71; refine (HS1.out _ _ _ _ _ hP3).mono ?_; clear HS1; rintro e w9 ⟨rfl, hP4⟩; clear hP3)
          | (go_at_call 71; refine (HS2.out _ _ _ _ _ hP4).mono ?_; clear HS2; rintro e w10 ⟨rfl, hP5⟩; obtain ⟨y0, y1, y2, y3, y4, g0, g1, g2, g3, g4⟩ := hP5.cells; have hP6 := hP5.two2 pi pc; clear hP4 hP5)
          | (go_at_call 72; refine (HBy.out _ _ _ _ _ hP6).mono ?_; clear HBy; rintro e w11 ⟨rfl, hP7⟩; obtain ⟨z0, z1, z2, z3, z4, r0, r1, r2, r3, r4⟩ := hP7.rcells; clear hP6)
          | (go_at_call 73; refine (HTr.out _).mono ?_; clear HTr; rintro e w12 ⟨rfl, hb12⟩; have hP8 := hP7.below hb12; obtain ⟨u0, u1, u2, u3, u4, s0, s1, s2, s3, s4⟩ := hP8.rcells)
          | fail)
        exact ret_part (p := noPrt) (set5p hP8.res) rfl rfl rfl rfl ⟨by rw [HE.out], below5 hP8.bl (by omega) _ _ _ _ _⟩
end Go.Proofs.YthmjejmignangaaGreatDoor
