/- Layer 16: the document's read: the part that a sector is. -/
import Derived.Test.YthmjejmignangaaGreatDoorMQ
import Derived.Lib.ConvBytes
namespace Go.Proofs.YthmjejmignangaaGreatDoor
open Go.RowKit
/-- What the document's read answers. -/
def RdEnd (y : Sec) (w : World) (e : Ending) (w' : World) : Prop := ∃ (p : Prt) (ba : Option Addr) (bn bc : Nat), e = .returned (.tuple #[.agg #[.int .i64 p.e, .int .i64 p.n, .int .i64 p.i, .int .i64 p.c, .slice ba bn bc], .bool (partS y).2]) ∧ ((partS y).2 = true → p = (partS y).1 ∧ Own w' w.heap.size 5 (.slice ba bn bc) (p.b.map bv)) ∧ p.sm ∧ Below w.heap.size w w'
theorem noPrt_sm : noPrt.sm := ⟨by decide, by decide, by decide, by decide, by decide⟩
theorem load_partD {w : World} {b : Nat} {x0 x1 x2 x3 x4 : Value} (h : w.heap[b]? = some (.cells #[x0, x1, x2, x3, x4] 78 (0, 0))) : (loadVar 78 ⟨b, 0, none⟩).run Tryz.prog w = .ok (.agg #[x0, x1, x2, x3, x4]) w := by
  simp [loadVar, go_sem, Lib.cell_of_heap h]
theorem ret_partD {fn : Func} {W : World} {a : Act} {t u : Tmp} {b : Nat} {x0 x1 x2 x3 x4 : Value} {ok : Bool} {Q : Ending → World → Prop} (hb : W.heap[b]? = some (.cells #[x0, x1, x2, x3, x4] 78 (0, 0))) (h : fn.results = #[.cell t 78, .tmp u]) (ha : a.tmps[t]?.getD undef = .pointer (some ⟨b, 0, none⟩)) (hd : a.defers = []) (hu : a.tmps[u]?.getD undef = .bool ok)
    (hQ : Q (.returned (.tuple #[.agg #[x0, x1, x2, x3, x4], .bool ok])) W) : bodyPost Tryz.prog fn Q .ret a W := by
  refine bodyPost_ret (by rw [results_mix h _ _ _ _ _ ha (load_partD hb), hu]) hd hQ
theorem cells5D {w : World} {b : Nat} {t : TypeId} {x0 x1 x2 x3 x4 : Value} (h : w.heap[b]? = some (.cells #[x0, x1, x2, x3, x4] t (0, 0))) : w.cell? ⟨b, 0, none⟩ = some x0 ∧ w.cell? ⟨b, 1, none⟩ = some x1 ∧ w.cell? ⟨b, 2, none⟩ = some x2 ∧ w.cell? ⟨b, 3, none⟩ = some x3 ∧ w.cell? ⟨b, 4, none⟩ = some x4 :=
  ⟨Lib.cell_of_heap h 0, Lib.cell_of_heap h 1, Lib.cell_of_heap h 2, Lib.cell_of_heap h 3, Lib.cell_of_heap h 4⟩
/-- A false answer. -/
theorem rd_no {y : Sec} {w W : World} {R : Nat} {o0 o1 o2 o3 o4 : Value} (hp : (partS y).2 = false) (hb : W.heap[R]? = some (.cells #[o0, o1, o2, o3, o4] 78 (0, 0))) (hl : Below w.heap.size w W) (hR : w.heap.size ≤ R) :
    (((((W.setCell ⟨R, 0, none⟩ (.int .i64 0)).setCell ⟨R, 1, none⟩ (.int .i64 0)).setCell ⟨R, 2, none⟩ (.int .i64 0)).setCell ⟨R, 3, none⟩ (.int .i64 0)).setCell ⟨R, 4, none⟩ (.slice none 0 0)).heap[R]? = some (.cells #[.int .i64 0, .int .i64 0, .int .i64 0, .int .i64 0, .slice none 0 0] 78 (0, 0)) ∧
    RdEnd y w (.returned (.tuple #[.agg #[.int .i64 0, .int .i64 0, .int .i64 0, .int .i64 0, .slice none 0 0], .bool false])) (((((W.setCell ⟨R, 0, none⟩ (.int .i64 0)).setCell ⟨R, 1, none⟩ (.int .i64 0)).setCell ⟨R, 2, none⟩ (.int .i64 0)).setCell ⟨R, 3, none⟩ (.int .i64 0)).setCell ⟨R, 4, none⟩ (.slice none 0 0)) :=
  by
  refine ⟨set5_16 hb _ _ _ _ _, noPrt, none, 0, 0, ?_, ?_, noPrt_sm, below5 hl hR _ _ _ _ _⟩
  · rw [hp]; rfl
  · rw [hp]; intro e; cases e
/-- A true answer. -/
theorem rd_yes {y : Sec} {w V : World} {q g XB : Nat} {bs u x : Bt} {E N I C : Int} {va : Option Addr} {n vc : Nat} (hp : partS y = (⟨E, N, C, I, x⟩, true)) (h : DS w q g XB bs u E N I C (.slice va n vc) V) (hO : Own V (XB + 1) 5 (.slice va n vc) (x.map bv)) (hsm : (Prt.mk E N C I x).sm) :
    (((((V.setCell ⟨w.heap.size + 1, 0, none⟩ (.int .i64 E)).setCell ⟨w.heap.size + 1, 1, none⟩ (.int .i64 N)).setCell ⟨w.heap.size + 1, 2, none⟩ (.int .i64 I)).setCell ⟨w.heap.size + 1, 3, none⟩ (.int .i64 C)).setCell ⟨w.heap.size + 1, 4, none⟩ (.slice va n vc)).heap[w.heap.size + 1]? = some (.cells #[.int .i64 E, .int .i64 N, .int .i64 I, .int .i64 C, .slice va n vc] 78 (0, 0)) ∧
    RdEnd y w (.returned (.tuple #[.agg #[.int .i64 E, .int .i64 N, .int .i64 I, .int .i64 C, .slice va n vc], .bool true])) (((((V.setCell ⟨w.heap.size + 1, 0, none⟩ (.int .i64 E)).setCell ⟨w.heap.size + 1, 1, none⟩ (.int .i64 N)).setCell ⟨w.heap.size + 1, 2, none⟩ (.int .i64 I)).setCell ⟨w.heap.size + 1, 3, none⟩ (.int .i64 C)).setCell ⟨w.heap.size + 1, 4, none⟩ (.slice va n vc)) := by
  refine ⟨set5_16 h.rb _ _ _ _ _, ⟨E, N, C, I, x⟩, va, n, vc, by rw [hp], fun _ => ⟨by rw [hp], ?_⟩, hsm, below5 h.bel (Nat.le_succ _) _ _ _ _ _⟩
  have h1 := h.o1; have h2 := h.o2
  refine row_lower16 (row_keep hO fun g' hg => ?_) (by omega)
  have hn : g' ≠ w.heap.size + 1 := by have := (own_block hO hg).1; omega
  exact (Below.heap_setCell _ _ _ g' (by exact hn)).trans ((Below.heap_setCell _ _ _ g' (by exact hn)).trans ((Below.heap_setCell _ _ _ g' (by exact hn)).trans ((Below.heap_setCell _ _ _ g' (by exact hn)).trans (Below.heap_setCell _ _ _ g' (by exact hn)))))
set_option maxHeartbeats 4000000 in
set_option maxRecDepth 100000 in
theorem rread16_any (y : Sec) (hs : y.b.length ≤ 9223372036854775807) (w : World) : Calls Tryz.prog 26 #[.agg #[sv y.b, .bool y.bad]] w (RdEnd y w) := by
  obtain ⟨b, bad⟩ := y
  simp only at hs ⊢
  obtain ⟨W2, hW2⟩ : ∃ W2, W2 = (w.alloc (.cells #[sv b, .bool bad] 75)).alloc (.cells #[.int .i64 0, .int .i64 0, .int .i64 0, .int .i64 0, .slice none 0 0] 78) := ⟨_, rfl⟩
  have hb2 : Below w.heap.size w W2 := by rw [hW2]; exact ((Below.refl _ w).alloc (Nat.le_refl _) _).alloc (by simp) _
  have hbx : W2.heap[w.heap.size + 1]? = some (.cells #[.int .i64 0, .int .i64 0, .int .i64 0, .int .i64 0, .slice none 0 0] 78 (0, 0)) := by
    have := heap_alloc_new (w.alloc (.cells #[sv b, .bool bad] 75)) (.cells #[.int .i64 0, .int .i64 0, .int .i64 0, .int .i64 0, .slice none 0 0] 78)
    rw [World.size_alloc] at this
    rw [hW2]
    exact this
  have hpx : W2.heap[w.heap.size]? = some (.cells #[sv b, .bool bad] 75 (0, 0)) := by
    rw [hW2]
    exact (Below.heap_alloc _ _ _ (by simp)).trans (heap_alloc_new w _)
  have p0 : W2.cell? ⟨w.heap.size, 0, none⟩ = some (sv b) := Lib.cell_of_heap hpx 0
  have p1 : W2.cell? ⟨w.heap.size, 1, none⟩ = some (.bool bad) := Lib.cell_of_heap hpx 1
  have pl := lt_of_block hpx
  have fz := fun k => Lib.frozen_of_heap hbx k
  have fb := lt_of_block hbx
  obtain ⟨r0, r1, r2, r3, r4⟩ := cells5D hbx
  by_cases hok : bad = true ∨ b.length ≠ 64
  · have HP : (partS ⟨b, bad⟩).2 = false := by unfold partS; rw [if_pos hok]
    have HE := hidb (rd_no HP hbx hb2 (Nat.le_succ _))
    clear HP hbx
    cases bad with
    | true =>
      go_enter Tryz.func26, Tryz.ntmps26
      go_upto_region 1 with fail
      rw [← hW2]
      clear hW2
      go_wp2_with fail
      exact ret_partD HE.out.1 rfl rfl rfl rfl HE.out.2
    | false =>
      have hne : ((b.length : Int) != 64) = true := by simp at hok ⊢; omega
      clear hok
      go_enter Tryz.func26, Tryz.ntmps26
      go_upto_region 1 with fail
      rw [← hW2]
      clear hW2
      go_wp2_with fail
      exact ret_partD HE.out.1 rfl rfl rfl rfl HE.out.2
  · obtain ⟨hbad, h64⟩ : bad = false ∧ b.length = 64 := by cases bad <;> simp_all
    subst hbad
    have HP : Hid (partS ⟨b, false⟩ = if 43 < szS b ∨ restS b ≠ [] then (noPrt, false) else (prtS b, (prtS b).may)) := hidb (by unfold partS; rw [if_neg hok])
    have heq : ((b.length : Int) != 64) = false := by simp; omega
    have H64 := hidb h64
    clear hok h64
    go_enter Tryz.func26, Tryz.ntmps26
    go_upto_region 1 with fail
    rw [← hW2]
    clear hW2
    go_wp2_with fail
    clear heq hs
    rw [Lib.run_convert_string_bytes W2 9 29 5 ⟨b.toArray⟩ Tryz.underlying9 Tryz.underlying29 Tryz.underlying5]
    have hsz : (⟨b.toArray⟩ : ByteArray).size = 64 := by show b.toArray.size = 64; simpa using H64.out
    have hBs : Bs (Lib.bytesWorld W2 5 ⟨b.toArray⟩) (some ⟨W2.heap.size, 0, none⟩) b := .inr ⟨_, 0, rfl, fun j h => by
      rw [Nat.zero_add, Lib.bytesWorld_cell W2 _ _ j (by have := H64.out; omega)]
      simp [List.getD_eq_getElem?_getD, h]⟩
    have hb4 := bytes_below W2 5 ⟨b.toArray⟩
    rw [hsz]
    have HNR := hidb (fnew_new (some ⟨W2.heap.size, 0, none⟩) 64 (grownCap W2 64 0 5) b _ H64.out (by omega) hBs)
    generalize grownCap W2 64 0 5 = cp at *
    generalize Lib.bytesWorld W2 5 ⟨b.toArray⟩ = W4 at *
    have hx4 := (hb4.block _ fb).trans hbx
    have hb4w : Below w.heap.size w W4 := hb2.trans (hb4.mono hb2.size)
    have fb4 := lt_of_block hx4
    clear hb4 hbx hb2 hpx p0 p1 pl fz fb r0 r1 r2 r3 r4 hBs hsz
    obtain ⟨E, hE⟩ : ∃ x, x = toInt (num (b.take 8)) := ⟨_, rfl⟩
    obtain ⟨N, hN⟩ : ∃ x, x = toInt (num ((b.drop 8).take 8)) := ⟨_, rfl⟩
    obtain ⟨a16, h16⟩ : ∃ a, a = (b.getD 16 0).toNat := ⟨_, rfl⟩
    have l16 : a16 < 256 := by rw [h16]; exact (b.getD 16 0).toNat_lt
    obtain ⟨a17, h17⟩ : ∃ a, a = (b.getD 17 0).toNat := ⟨_, rfl⟩
    have l17 : a17 < 256 := by rw [h17]; exact (b.getD 17 0).toNat_lt
    obtain ⟨a18, h18⟩ : ∃ a, a = (b.getD 18 0).toNat := ⟨_, rfl⟩
    have l18 : a18 < 256 := by rw [h18]; exact (b.getD 18 0).toNat_lt
    obtain ⟨a19, h19⟩ : ∃ a, a = (b.getD 19 0).toNat := ⟨_, rfl⟩
    have l19 : a19 < 256 := by rw [h19]; exact (b.getD 19 0).toNat_lt
    obtain ⟨a20, h20⟩ : ∃ a, a = (b.getD 20 0).toNat := ⟨_, rfl⟩
    have l20 : a20 < 256 := by rw [h20]; exact (b.getD 20 0).toNat_lt
    have HI0 : Hid (∀ V q g, FS V q g b (b, 0) → Calls Tryz.prog 53 #[.pointer (some ⟨q, 0, none⟩)] V (OneEndF (.int .i64 E) q g b (b.drop 8, 0) V)) := hidb fun V q g h => by rw [hE]; exact fint_at h (by have := H64.out; omega)
    have HI1 : Hid (∀ V q g XB e n i c v, DS w q g XB b (b.drop 8) e n i c v V → Calls Tryz.prog 53 #[.pointer (some ⟨q, 0, none⟩)] V fun x W' => x = .returned (.int .i64 N) ∧ DS w q g XB b (b.drop 16) e n i c v W') := hidb fun V q g XB e n i c v h => by
      refine (h.int (by have := H64.out; simp; omega)).mono fun x W' ⟨e1, r⟩ => ⟨by rw [e1, hN], by rw [List.drop_drop] at r; exact r⟩
    have HB16 : Hid (∀ V q g XB e n i c v, DS w q g XB b (b.drop 16) e n i c v V → Calls Tryz.prog 54 #[.pointer (some ⟨q, 0, none⟩)] V fun x W' => x = .returned (.int .i64 (a16 : Nat)) ∧ DS w q g XB b (b.drop 17) e n i c v W') := hidb fun V q g XB e n i c v h => by
      refine (h.byte (by have := H64.out; simp; omega)).mono fun x W' ⟨e1, r⟩ => ⟨by rw [e1, h16]; simp [List.getD_eq_getElem?_getD], by rw [List.drop_drop] at r; exact r⟩
    have HB17 : Hid (∀ V q g XB e n i c v, DS w q g XB b (b.drop 17) e n i c v V → Calls Tryz.prog 54 #[.pointer (some ⟨q, 0, none⟩)] V fun x W' => x = .returned (.int .i64 (a17 : Nat)) ∧ DS w q g XB b (b.drop 18) e n i c v W') := hidb fun V q g XB e n i c v h => by
      refine (h.byte (by have := H64.out; simp; omega)).mono fun x W' ⟨e1, r⟩ => ⟨by rw [e1, h17]; simp [List.getD_eq_getElem?_getD], by rw [List.drop_drop] at r; exact r⟩
    have HB18 : Hid (∀ V q g XB e n i c v, DS w q g XB b (b.drop 18) e n i c v V → Calls Tryz.prog 54 #[.pointer (some ⟨q, 0, none⟩)] V fun x W' => x = .returned (.int .i64 (a18 : Nat)) ∧ DS w q g XB b (b.drop 19) e n i c v W') := hidb fun V q g XB e n i c v h => by
      refine (h.byte (by have := H64.out; simp; omega)).mono fun x W' ⟨e1, r⟩ => ⟨by rw [e1, h18]; simp [List.getD_eq_getElem?_getD], by rw [List.drop_drop] at r; exact r⟩
    have HB19 : Hid (∀ V q g XB e n i c v, DS w q g XB b (b.drop 19) e n i c v V → Calls Tryz.prog 54 #[.pointer (some ⟨q, 0, none⟩)] V fun x W' => x = .returned (.int .i64 (a19 : Nat)) ∧ DS w q g XB b (b.drop 20) e n i c v W') := hidb fun V q g XB e n i c v h => by
      refine (h.byte (by have := H64.out; simp; omega)).mono fun x W' ⟨e1, r⟩ => ⟨by rw [e1, h19]; simp [List.getD_eq_getElem?_getD], by rw [List.drop_drop] at r; exact r⟩
    have HB20 : Hid (∀ V q g XB e n i c v, DS w q g XB b (b.drop 20) e n i c v V → Calls Tryz.prog 54 #[.pointer (some ⟨q, 0, none⟩)] V fun x W' => x = .returned (.int .i64 (a20 : Nat)) ∧ DS w q g XB b (b.drop 21) e n i c v W') := hidb fun V q g XB e n i c v h => by
      refine (h.byte (by have := H64.out; simp; omega)).mono fun x W' ⟨e1, r⟩ => ⟨by rw [e1, h20]; simp [List.getD_eq_getElem?_getD], by rw [List.drop_drop] at r; exact r⟩
    have HP2 : Hid (E = (prtS b).e ∧ N = (prtS b).n ∧ (256 * (a16 : Int) + a17) = (prtS b).i ∧ (256 * (a18 : Int) + a19) = (prtS b).c ∧ a20 = szS b) := hidb (by
      have h64 := H64.out
      have t1 := two_at b h64 16 (by omega)
      have t2 := two_at b h64 18 (by omega)
      simp only [Nat.reduceAdd] at t1 t2
      rw [← h16, ← h17] at t1
      rw [← h18, ← h19] at t2
      refine ⟨hE, hN, ?_, ?_, h20⟩
      · show _ = ((num ((b.drop 16).take 2) : Nat) : Int)
        rw [t1]
        omega
      · show _ = ((num ((b.drop 18).take 2) : Nat) : Int)
        rw [t2]
        omega)
    clear hE hN h16 h17 h18 h19 h20
    go_upto_region 5 with (first
      | (go_at_call 52; refine HNR.out.mono ?_; clear HNR; rintro e W5 ⟨q, g, rfl, hq5, hg5, hr5, hb5⟩; have F0 : FS W5 q g b (b, 0) := ⟨0, hr5, rfl⟩)
      | (go_at_call 53; refine (HI0.out _ _ _ F0).mono ?_; clear HI0; rintro e W6 ⟨rfl, F1, c6⟩)
      | fail)
    have fz : FS W6 q g b (b.drop 8, 0) := F1
    obtain ⟨XB, hXB⟩ : ∃ z, z = W6.heap.size := ⟨_, rfl⟩
    obtain ⟨V0, hV0⟩ : ∃ W, W = W6.alloc (.cells #[.int .i64 E, .int .i64 0, .int .i64 0, .int .i64 0, .slice none 0 0] 78) := ⟨_, rfl⟩
    have hq5s := F0.cell.2
    have hg5s : g < W5.heap.size := by
      obtain ⟨⟨ao', cap', hE, hB, hc, hm'⟩, hgq, hle, hmx⟩ := hr5
      rcases hB with h | ⟨off, ho, hc'⟩
      · have := H64.out; rw [h] at this; cases this
      · have := hc' 0 (by have := H64.out; omega)
        exact World.block_lt_of_cell? _ _ this
    have D0 : DS w q g XB b (b.drop 8) E 0 0 0 (.slice none 0 0) V0 := by
      have h56 := c6.size
      have h45 := hb5.size
      have hx5 := (hb5.block _ fb4).trans hx4
      have hx6 := (c6.block _ (lt_of_block hx5) (by omega)).trans hx5
      have hb6w : Below w.heap.size w W6 := (hb4w.trans (hb5.mono hb4w.size)).trans (c6.below (by have := hb4w.size; omega) fun i (e : i = q) => by have := hb4w.size; omega)
      subst hV0 hXB
      exact ⟨F1.chg (Chg.alloc W6 _ (fun _ => False)) id id, heap_alloc_new W6 _, (Below.heap_alloc _ _ _ (lt_of_block hx6)).trans hx6, hb6w.alloc hb6w.size _, by omega, by omega, by omega⟩
    rw [← hV0, ← hXB]
    clear hV0 hXB fz F1 F0 c6 hr5 hb5 hq5 hg5 hq5s hg5s hx4 hb4w fb4
    go_upto_region 6 with (first
      | (go_at_call 53; refine (HI1.out _ _ _ _ _ _ _ _ _ D0).mono ?_; clear HI1; rintro e U1 ⟨rfl, G1⟩; obtain ⟨⟨x0, x1, x2, x3, x4⟩, fz, xl⟩ := G1.rd)
      | fail)
    obtain ⟨V1, hV1⟩ : ∃ W, W = U1.setCell ⟨XB, 1, none⟩ (.int .i64 N) := ⟨_, rfl⟩
    have D1 : DS w q g XB b (b.drop 16) E N 0 0 (.slice none 0 0) V1 := by rw [hV1]; exact G1.put 1 _ rfl
    rw [← hV1]
    clear hV1 G1 x0 x1 x2 x3 x4 fz xl D0
    have hw16 : IntKind.i64.wrap (256 * (a16 : Int)) = 256 * (a16 : Int) := by rw [IntKind.wrap_i64]; omega
    go_upto_region 7 with (first
      | (go_at_call 54; refine (HB16.out _ _ _ _ _ _ _ _ _ D1).mono ?_; clear HB16; rintro e U2 ⟨rfl, G2⟩; obtain ⟨⟨x0, x1, x2, x3, x4⟩, fz, xl⟩ := G2.rd)
      | fail)
    obtain ⟨V2, hV2⟩ : ∃ W, W = U2.setCell ⟨XB, 2, none⟩ (.int .i64 (256 * (a16 : Int))) := ⟨_, rfl⟩
    have D2 : DS w q g XB b (b.drop 17) E N (256 * (a16 : Int)) 0 (.slice none 0 0) V2 := by rw [hV2]; exact G2.put 2 _ rfl
    rw [← hV2]
    clear hV2 G2 x0 x1 x2 x3 x4 fz xl D1
    clear hw16
    have hw17 : IntKind.i64.wrap (256 * (a16 : Int) + (a17 : Int)) = 256 * (a16 : Int) + (a17 : Int) := by rw [IntKind.wrap_i64]; omega
    go_cut [36] (fun _ wx => Hid (DS w q g XB b (b.drop 18) E N (256 * (a16 : Int) + a17) 0 (.slice none 0 0) wx))
    case first =>
      obtain ⟨⟨y0, y1, y2, y3, y4⟩, fy, yl⟩ := D2.rd
      have Dd := D2.drew
      go_region_with (first
        | (go_at_call 54; refine (HB17.out _ _ _ _ _ _ _ _ _ Dd).mono ?_; clear HB17; rintro e U3 ⟨rfl, G3⟩; obtain ⟨⟨x0, x1, x2, x3, x4⟩, fz, xl⟩ := G3.rd)
        | fail)
      all_goals
        go_wp2_with fail
        go_meet
        exact hidb (G3.put 2 _ rfl)
    case rest =>
    have D3 := hcut.out
    clear hcut hw17 D2
    have hw18 : IntKind.i64.wrap (256 * (a18 : Int)) = 256 * (a18 : Int) := by rw [IntKind.wrap_i64]; omega
    go_upto_region 9 with (first
      | (go_at_call 54; refine (HB18.out _ _ _ _ _ _ _ _ _ D3).mono ?_; clear HB18; rintro e U4 ⟨rfl, G4⟩; obtain ⟨⟨x0, x1, x2, x3, x4⟩, fz, xl⟩ := G4.rd)
      | fail)
    obtain ⟨V4, hV4⟩ : ∃ W, W = U4.setCell ⟨XB, 3, none⟩ (.int .i64 (256 * (a18 : Int))) := ⟨_, rfl⟩
    have D4 : DS w q g XB b (b.drop 19) E N (256 * (a16 : Int) + a17) (256 * (a18 : Int)) (.slice none 0 0) V4 := by rw [hV4]; exact G4.put 3 _ rfl
    rw [← hV4]
    clear hV4 G4 x0 x1 x2 x3 x4 fz xl D3
    clear hw18
    have hw19 : IntKind.i64.wrap (256 * (a18 : Int) + (a19 : Int)) = 256 * (a18 : Int) + (a19 : Int) := by rw [IntKind.wrap_i64]; omega
    go_cut [46] (fun _ wx => Hid (DS w q g XB b (b.drop 20) E N (256 * (a16 : Int) + a17) (256 * (a18 : Int) + a19) (.slice none 0 0) wx))
    case first =>
      obtain ⟨⟨y0, y1, y2, y3, y4⟩, fy, yl⟩ := D4.rd
      have Dd := D4.drew
      go_region_with (first
        | (go_at_call 54; refine (HB19.out _ _ _ _ _ _ _ _ _ Dd).mono ?_; clear HB19; rintro e U5 ⟨rfl, G5⟩; obtain ⟨⟨x0, x1, x2, x3, x4⟩, fz, xl⟩ := G5.rd)
        | fail)
      all_goals
        go_wp2_with fail
        go_meet
        exact hidb (G5.put 3 _ rfl)
    case rest =>
    have D5 := hcut.out
    clear hcut hw19 D4
    go_upto_region 11 with (first
      | (go_at_call 54; refine (HB20.out _ _ _ _ _ _ _ _ _ D5).mono ?_; clear HB20; rintro e U6 ⟨rfl, G6⟩; obtain ⟨⟨x0, x1, x2, x3, x4⟩, fz, xl⟩ := G6.rd)
      | fail)
    clear D5 x0 x1 x2 x3 x4 fz xl
    have hIr : 0 ≤ 256 * (a16 : Int) + a17 ∧ 256 * (a16 : Int) + a17 ≤ 65535 := by omega
    have hCr : 0 ≤ 256 * (a18 : Int) + a19 ∧ 256 * (a18 : Int) + a19 ≤ 65535 := by omega
    generalize 256 * (a16 : Int) + a17 = I at *
    generalize 256 * (a18 : Int) + a19 = C at *
    clear l16 l17 l18 l19
    obtain ⟨bd, hbd⟩ : ∃ x : Bool, x = decide (BadD E N C I a20) := ⟨_, rfl⟩
    go_cut [109] (fun v wx => v = .bool bd ∧ wx = U6)
    case first =>
      obtain ⟨⟨x0, x1, x2, x3, x4⟩, fz, xl⟩ := G6.rd
      have hwc : IntKind.i64.wrap (C - 1) = C - 1 := by rw [IntKind.wrap_i64]; omega
      clear HP HP2 G6 fz
      by_cases c1 : E < 1
      · have d1 : decide (E < 1) = true := decide_eq_true c1
        have hb : bd = true := by rw [hbd]; exact decide_eq_true (by unfold BadD; omega)
        go_wp2_with fail
        go_meet
        exact ⟨by rw [hb], rfl⟩
      have d1 : decide (E < 1) = false := decide_eq_false c1
      by_cases c2 : 4611686018427387904 < E
      · have d2 : decide (4611686018427387904 < E) = true := decide_eq_true c2
        have hb : bd = true := by rw [hbd]; exact decide_eq_true (by unfold BadD; omega)
        go_wp2_with fail
        go_meet
        exact ⟨by rw [hb], rfl⟩
      have d2 : decide (4611686018427387904 < E) = false := decide_eq_false c2
      by_cases c3 : N < 1
      · have d3 : decide (N < 1) = true := decide_eq_true c3
        have hb : bd = true := by rw [hbd]; exact decide_eq_true (by unfold BadD; omega)
        go_wp2_with fail
        go_meet
        exact ⟨by rw [hb], rfl⟩
      have d3 : decide (N < 1) = false := decide_eq_false c3
      by_cases c4 : 4611686018427387904 < N
      · have d4 : decide (4611686018427387904 < N) = true := decide_eq_true c4
        have hb : bd = true := by rw [hbd]; exact decide_eq_true (by unfold BadD; omega)
        go_wp2_with fail
        go_meet
        exact ⟨by rw [hb], rfl⟩
      have d4 : decide (4611686018427387904 < N) = false := decide_eq_false c4
      by_cases c5 : C < 1
      · have d5 : decide (C < 1) = true := decide_eq_true c5
        have hb : bd = true := by rw [hbd]; exact decide_eq_true (by unfold BadD; omega)
        go_wp2_with fail
        go_meet
        exact ⟨by rw [hb], rfl⟩
      have d5 : decide (C < 1) = false := decide_eq_false c5
      by_cases c6 : 4096 < C
      · have d6 : decide (4096 < C) = true := decide_eq_true c6
        have hb : bd = true := by rw [hbd]; exact decide_eq_true (by unfold BadD; omega)
        go_wp2_with fail
        go_meet
        exact ⟨by rw [hb], rfl⟩
      have d6 : decide (4096 < C) = false := decide_eq_false c6
      by_cases c7 : C ≤ I
      · have d7 : decide (C ≤ I) = true := decide_eq_true c7
        have hb : bd = true := by rw [hbd]; exact decide_eq_true (by unfold BadD; omega)
        go_wp2_with fail
        go_meet
        exact ⟨by rw [hb], rfl⟩
      have d7 : decide (C ≤ I) = false := decide_eq_false c7
      by_cases c8 : (43 : Int) < (a20 : Int)
      · have d8 : decide ((43 : Int) < (a20 : Int)) = true := decide_eq_true c8
        have hb : bd = true := by rw [hbd]; exact decide_eq_true (by unfold BadD; omega)
        go_wp2_with fail
        go_meet
        exact ⟨by rw [hb], rfl⟩
      have d8 : decide ((43 : Int) < (a20 : Int)) = false := decide_eq_false c8
      by_cases c9 : I < C - 1
      · have d9 : decide (I < C - 1) = true := decide_eq_true c9
        by_cases e9 : (a20 : Int) < 43
        · have d12 : decide ((a20 : Int) < 43) = true := decide_eq_true e9
          have hb : bd = true := by rw [hbd]; exact decide_eq_true (by unfold BadD; omega)
          go_wp2_with fail
          go_meet
          exact ⟨by rw [hb], rfl⟩
        · have d12 : decide ((a20 : Int) < 43) = false := decide_eq_false e9
          by_cases c10 : 1 < C
          · have d10 : decide (1 < C) = true := decide_eq_true c10
            by_cases e10 : a20 = 0
            · exact absurd e10 (by omega)
            · have d11 : ((a20 : Int) == 0) = false := by simp [e10]
              have hb : bd = false := by rw [hbd]; exact decide_eq_false (by unfold BadD; omega)
              go_wp2_with fail
              go_meet
              exact ⟨by rw [hb], rfl⟩
          · exact absurd c10 (by omega)
      · have d9 : decide (I < C - 1) = false := decide_eq_false c9
        by_cases c10 : 1 < C
        · have d10 : decide (1 < C) = true := decide_eq_true c10
          by_cases e10 : a20 = 0
          · have d11 : ((a20 : Int) == 0) = true := by simp [e10]
            have hb : bd = true := by rw [hbd]; exact decide_eq_true (by unfold BadD; omega)
            clear e10
            go_wp2_with fail
            go_meet
            exact ⟨by rw [hb], rfl⟩
          · have d11 : ((a20 : Int) == 0) = false := by simp [e10]
            have hb : bd = false := by rw [hbd]; exact decide_eq_false (by unfold BadD; omega)
            go_wp2_with fail
            go_meet
            exact ⟨by rw [hb], rfl⟩
        · have d10 : decide (1 < C) = false := decide_eq_false c10
          have hb : bd = false := by rw [hbd]; exact decide_eq_false (by unfold BadD; omega)
          go_wp2_with fail
          go_meet
          exact ⟨by rw [hb], rfl⟩
    case rest =>
    obtain ⟨rfl, rfl⟩ := hcut
    have hcell : ∀ k, k < 43 → 21 + k < b.length := fun k hk => by have := H64.out; omega
    cases hbdc : bd with
    | true =>
      have hbad : BadD (prtS b).e (prtS b).n (prtS b).c (prtS b).i (szS b) := by
        obtain ⟨p1, p2, p3, p4, p5⟩ := HP2.out
        rw [← p1, ← p2, ← p3, ← p4, ← p5]
        exact of_decide_eq_true (hbd.symm.trans hbdc)
      have HE := hidb (rd_no (partS_bad H64.out hbad) G6.rb G6.bel (Nat.le_succ _))
      obtain ⟨⟨x0, x1, x2, x3, x4⟩, fz, xl⟩ := G6.rr
      clear G6 HP HP2 hbd hbad hcell
      go_wp2_with fail
      exact ret_partD HE.out.1 rfl rfl rfl rfl HE.out.2
    | false =>
      have hgood : ¬ BadD (prtS b).e (prtS b).n (prtS b).c (prtS b).i (szS b) := by
        obtain ⟨p1, p2, p3, p4, p5⟩ := HP2.out
        rw [← p1, ← p2, ← p3, ← p4, ← p5]
        exact of_decide_eq_false (hbd.symm.trans hbdc)
      obtain ⟨g1, g2, g3⟩ := partS_good H64.out hgood
      have h5 : a20 = szS b := HP2.out.2.2.2.2
      have h43 : a20 ≤ 43 := by rw [h5]; exact g1
      -- some byte behind its own is not 0
      have HNo : Hid (∀ j, a20 ≤ j → j < 43 → (b.getD (21 + j) 0).toNat ≠ 0 → (partS ⟨b, false⟩).2 = false) := hidb fun j j1 j2 j3 => by
        refine g2 fun e => ?_
        have := (trimB_nil _ _).1 e (b.getD (21 + j) 0) (by
          rw [← h5]
          refine List.mem_iff_getElem?.2 ⟨j - a20, ?_⟩
          rw [List.drop_drop, List.getElem?_drop, show 21 + a20 + (j - a20) = 21 + j by omega, List.getD_eq_getElem?_getD, List.getElem?_eq_getElem (hcell j j2)]
          rfl)
        rw [this] at j3
        exact j3 rfl
      have HYes : Hid ((∀ j, a20 ≤ j → j < 43 → b.getD (21 + j) 0 = 0) → partS ⟨b, false⟩ = (⟨E, N, C, I, (b.drop 21).take a20⟩, true)) := hidb fun hz => by
        have hr : restS b = [] := (trimB_nil _ _).2 fun x hx => by
          obtain ⟨j, hj⟩ := List.mem_iff_getElem?.1 hx
          rw [← h5, List.drop_drop, List.getElem?_drop] at hj
          have hlt := (List.getElem?_eq_some_iff.1 hj).1
          have h64 := H64.out
          have := hz (a20 + j) (by omega) (by omega)
          rw [List.getD_eq_getElem?_getD, show 21 + (a20 + j) = 21 + a20 + j by omega, hj] at this
          exact this
        rw [g3 hr]
        obtain ⟨p1, p2, p3, p4, p5⟩ := HP2.out
        unfold prtS at p1 p2 p3 p4 ⊢
        simp only at p1 p2 p3 p4
        rw [p1, p2, p3, p4, p5]
      clear hgood g1 g2 g3 h5 hbd hbdc HP HP2 hIr hCr l20 hcell
      have hZ : Own wc (XB + 1) 5 (.slice none 0 0) [] := own_none _ _ _
      have HG6 := hidb G6
      clear G6
      go_upto_region 14 with fail
      go_loopw [7] (fun iv wr => ∃ (k : Nat) (v : Value), iv = .int .i64 k ∧ k ≤ 43 ∧ Hid (DS w q g XB b (b.drop (21 + k)) E N I C v wr ∧ Own wr (XB + 1) 5 v (((b.drop 21).take (min k a20)).map bv) ∧ ∀ j, a20 ≤ j → j < k → b.getD (21 + j) 0 = 0)) (fun iv _ => 43 - (intOf iv).toNat)
      case atStart => exact ⟨0, _, rfl, Nat.zero_le _, hidb ⟨HG6.out, by simpa using hZ, fun j h1 h2 => absurd h2 (by omega)⟩⟩
      case round =>
        obtain ⟨k, v, rfl, hk, HK⟩ := hrel
        by_cases hlt : k < 43
        · have hlt2 : (k : Int) < 43 := by omega
          obtain ⟨D, hO, hz⟩ := HK.out
          obtain ⟨cb, hcb⟩ : ∃ x, x = b.getD (21 + k) 0 := ⟨_, rfl⟩
          have HBy := hidb (D.byteR (by have := H64.out; simp; omega) hO)
          rw [show (b.drop (21 + k)).getD 0 0 = cb by rw [hcb]; simp [List.getD_eq_getElem?_getD], List.drop_drop, show 21 + k + 1 = 21 + (k + 1) by omega] at HBy
          have hcb8 := cb.toNat_lt
          by_cases hka : k < a20
          · have hka2 : (k : Int) < (a20 : Int) := by omega
            have hw8 : IntKind.u8.wrap (cb.toNat : Int) = (cb.toNat : Int) := by rw [IntKind.wrap_u8]; omega
            obtain ⟨xs, hxs⟩ : ∃ xs, xs = ((b.drop 21).take (min k a20)).map bv := ⟨_, rfl⟩
            rw [← hxs] at hO HBy
            have hml : xs.length ≤ 43 := by rw [hxs]; simp; omega
            have hnew : xs ++ [.int .u8 (cb.toNat : Int)] = ((b.drop 21).take (min (k + 1) a20)).map bv := by
              have h64 := H64.out
              rw [hxs, show min k a20 = k by omega, show min (k + 1) a20 = k + 1 by omega, List.take_add_one, List.getElem?_drop, List.getElem?_eq_getElem (by omega)]
              simp only [Option.toList_some, List.map_append, List.map_cons, List.map_nil, bv]
              rw [hcb, List.getD_eq_getElem?_getD, List.getElem?_eq_getElem (by omega)]
              rfl
            obtain ⟨va, vc, rfl, -⟩ := row_form hO
            have HN := hidb hnew
            have HCB := hidb hcb
            have HO := hidb hO
            have HZz := hidb hz
            clear hnew hxs hcb hO D hz HK
            go_upto_region 18 with (first
              | (go_at_call 54; refine HBy.out.mono ?_; clear HBy; rintro e U7 ⟨rfl, G7, hO7⟩)
              | fail)
            obtain ⟨⟨x0, x1, x2, x3, x4⟩, fz, xl⟩ := G7.rd
            go_wp2_with (first
              | (at_builtin; refine wpList_app _ rfl _ _ _ _ rfl elem_u8 (XB + 1) _ _ rfl (Own.below hO7 ((Below.refl _ U7).alloc (Nat.le_refl _) _)) _ rfl [.int .u8 (cb.toNat : Int)] (src_one U7 Tryz.underlying29 _ _ _ rfl rfl 1) (by simp only [List.length_cons, List.length_nil]; unfold maxLen; omega) (by simp only [List.length_cons, List.length_nil]; omega) (by rw [World.size_alloc]; omega) ?_; intro v' V8 ho8 hs8; rw [HN.out] at ho8; obtain ⟨va8, vc8, e8, -⟩ := row_form ho8; generalize (((b.drop 21).take (min (k + 1) a20)).map bv).length = n8 at e8; subst e8; obtain ⟨q1, q2, q3, q4⟩ := G7.app hO7 hs8 ho8)
              | fail)
            exact ⟨⟨k + 1, _, by simp, by omega, hidb ⟨q1, q2, fun j h1 h2 => absurd h1 (by omega)⟩⟩, by simp [intOf]; omega⟩
          · have hka2 : ¬ (k : Int) < (a20 : Int) := by omega
            by_cases hc0 : cb.toNat = 0
            · have hne : ((cb.toNat : Int) != 0) = false := by simp [hc0]
              have hz2 : ∀ j, a20 ≤ j → j < k + 1 → b.getD (21 + j) 0 = 0 := fun j h1 h2 => by
                by_cases e : j = k
                · subst e
                  rw [← hcb]
                  exact UInt8.toNat_inj.1 (by rw [hc0]; rfl)
                · exact hz j h1 (by omega)
              have HZ2 := hidb hz2
              have hmin : min k a20 = min (k + 1) a20 := by omega
              rw [hmin] at HBy
              clear hz hz2 hc0 hcb hO D HK hmin
              go_wp2_with (first
                | (go_at_call 54; refine HBy.out.mono ?_; clear HBy; rintro e U7 ⟨rfl, G7, hO7⟩)
                | fail)
              exact ⟨⟨k + 1, _, by simp, by omega, hidb ⟨G7, hO7, HZ2.out⟩⟩, by simp [intOf]; omega⟩
            · have hne : ((cb.toNat : Int) != 0) = true := by simp [hc0]
              have hno := HNo.out k (by omega) hlt (by rw [← hcb]; exact hc0)
              have HE := hidb (fun (V : World) (h : DS w q g XB b (b.drop (21 + (k + 1))) E N I C v V) => rd_no (y := ⟨b, false⟩) hno h.rb h.bel (Nat.le_succ _))
              clear hno hz hc0 hcb hO D HK
              go_wp2_with (first
                | (go_at_call 54; refine HBy.out.mono ?_; clear HBy; rintro e U7 ⟨rfl, G7, hO7⟩; have HE2 := hidb (HE.out _ G7); obtain ⟨⟨x0, x1, x2, x3, x4⟩, fz, xl⟩ := G7.rr; clear G7 hO7 HE)
                | fail)
              exact ret_partD HE2.out.1 rfl rfl rfl rfl HE2.out.2
        · obtain rfl : k = 43 := by omega
          obtain ⟨D, hO, hz⟩ := HK.out
          rw [show min 43 a20 = a20 by omega] at hO
          obtain ⟨va, vc, rfl, -⟩ := row_form hO
          have hy := HYes.out hz
          have hsm : (Prt.mk E N C I ((b.drop 21).take a20)).sm := by
            have := (partS_fact ⟨b, false⟩).1
            rw [hy] at this
            exact this
          generalize (((b.drop 21).take a20).map bv).length = vn at *
          have HE := hidb (rd_yes hy D hO hsm)
          obtain ⟨⟨x0, x1, x2, x3, x4⟩, fz, xl⟩ := D.rr
          obtain ⟨⟨y0, y1, y2, y3, y4⟩, fy, yl⟩ := D.rd
          clear D hO hz hy hsm HK
          go_wp2_with fail
          exact ret_partD HE.out.1 rfl rfl rfl rfl HE.out.2
end Go.Proofs.YthmjejmignangaaGreatDoor
