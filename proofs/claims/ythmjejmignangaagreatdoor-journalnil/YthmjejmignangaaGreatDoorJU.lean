/- Layer 16: the bytes of a part's sector. Layer 16: journal.Split. -/
import Derived.Test.YthmjejmignangaaGreatDoorMW
import Derived.Test.YthmjejmignangaaGreatDoorJP
import Derived.Test.YthmjejmignangaaGreatDoorShelfj
namespace Go.Proofs.YthmjejmignangaaGreatDoor
open Go.RowKit
theorem and_255 (x : Int) (h : 0 ≤ x ∧ x ≤ 65535) : bits BinOp.and IntKind.i64 x 255 = x % 256 := by
  obtain ⟨n, rfl⟩ := Int.eq_ofNat_of_zero_le h.1
  show IntKind.i64.wrap ((BitVec.ofInt 64 ((n : Nat) : Int) &&& BitVec.ofInt 64 ((255 : Nat) : Int)).toNat : Int) = _
  rw [BitVec.toNat_and, ofInt_j _ (by omega), ofInt_j _ (by omega), show (255 : Nat) = 2 ^ 8 - 1 from rfl, Nat.and_two_pow_sub_one_eq_mod, IntKind.wrap_i64]
  omega
theorem str3 (a b : Bt) (n : Nat) : (⟨a.toArray⟩ : ByteArray) ++ ⟨b.toArray⟩ ++ ⟨Array.replicate n 0⟩ = ⟨((a ++ b) ++ List.replicate n 0).toArray⟩ := by
  apply ByteArray.ext
  simp [ByteArray.data_append]
/-- The bytes of a part's sector. -/
def secB (p : Prt) : Bt := ((([] ++ ints [p.e, p.n]) ++ byts [p.i / 256, p.i % 256, p.c / 256, p.c % 256, (p.b.length : Int)]) ++ p.b) ++ List.replicate (43 - p.b.length) 0
theorem newW16 (w4 : World) : Calls Tryz.prog 86 #[] w4 fun e w5 => e = .returned (.pointer (some ⟨w4.heap.size + 1, 0, none⟩)) ∧ MineW w4 w5 (.slice none 0 0) [] := (newWriter_any w4).mono (by rintro e w5 ⟨rfl, hw5⟩; exact ⟨rfl, by rw [hw5]; exact ⟨newWriter_wr w4, Own.nil _ _ _, ((Below.refl _ _).alloc (Nat.le_refl _) _).alloc (by simp) _, by simp⟩⟩)
set_option maxHeartbeats 4000000 in
set_option maxRecDepth 100000 in
theorem sector_any16 (p : Prt) (hi : 0 ≤ p.i ∧ p.i ≤ 65535) (hc : 0 ≤ p.c ∧ p.c ≤ 65535) (hb : p.b.length ≤ 43) (w : World) : Calls Tryz.prog 63 #[.agg #[.int .i64 p.e, .int .i64 p.n, .int .i64 p.c, .int .i64 p.i, sv p.b]] w fun e w' => e = .returned (sv (secB p)) ∧ Below w.heap.size w w' := by
  have HS : Hid (secB p = ((([] ++ ints [p.e, p.n]) ++ byts [p.i / 256, p.i % 256, p.c / 256, p.c % 256, (p.b.length : Int)]) ++ p.b) ++ List.replicate (43 - p.b.length) 0) := hidb rfl
  obtain ⟨pe, pn, pc, pi, pb⟩ := p
  simp only at hi hc hb HS ⊢
  obtain ⟨W1, hW1⟩ : ∃ W1, W1 = w.alloc (.cells #[.int .i64 pe, .int .i64 pn, .int .i64 pc, .int .i64 pi, sv pb] 71) := ⟨_, rfl⟩
  have hb1 : Below w.heap.size w W1 := by rw [hW1]; exact (Below.refl _ w).alloc (Nat.le_refl _) _
  have hbx1 : W1.heap[w.heap.size]? = some (.cells #[.int .i64 pe, .int .i64 pn, .int .i64 pc, .int .i64 pi, sv pb] 71 (0, 0)) := by rw [hW1]; exact heap_alloc_new w _
  have HN := hidb (newW16 W1)
  have HI := hidb (fun W v (M : MineW W1 W v []) => intsN_W W1 W v [] M _ 2 rfl [pe, pn] rfl _ rfl (by simp))
  have HB := hidb (fun W v (M : MineW W1 W v ([] ++ ints [pe, pn])) => bytesN_W W1 W v _ M _ 5 rfl [pi / 256, pi % 256, pc / 256, pc % 256, (pb.length : Int)] rfl (by omega) _ rfl (by intro x hx; simp only [List.mem_cons, List.not_mem_nil, or_false] at hx; rcases hx with rfl | rfl | rfl | rfl | rfl <;> omega) (by simp [ints_length]))
  have HK : Hid (∀ W v bs, MineW W1 W v bs → W.heap[w.heap.size]? = some (.cells #[.int .i64 pe, .int .i64 pn, .int .i64 pc, .int .i64 pi, sv pb] 71 (0, 0)) ∧ Below w.heap.size w W) := hidb fun W v bs M => ⟨(M.hb.block _ (lt_of_block hbx1)).trans hbx1, hb1.trans (M.hb.mono hb1.size)⟩
  go_enter Tryz.func63, Tryz.ntmps63
  go_upto_region 2 with (first
    | (go_at_call 86; rw [← hW1]; clear hW1; refine HN.out.mono ?_; clear HN; rintro e w2 ⟨rfl, M2⟩)
    | fail)
  obtain ⟨hx2, -⟩ := HK.out _ _ _ M2
  obtain ⟨x0, x1, x2, x3, x4, xl⟩ := part_cells (p := ⟨pe, pn, pc, pi, pb⟩) hx2
  simp only at x0 x1 x2 x3 x4
  have HI2 := hidb (HI.out _ _ M2)
  clear HI hx2
  go_upto_region 3 with (first
    | (go_at_call 87; refine HI2.out.mono ?_; clear HI2; rintro e w3 ⟨v3, rfl, M3, -⟩)
    | fail)
  clear x0 x1 x2 x3 x4 xl
  obtain ⟨hx3, -⟩ := HK.out _ _ _ M3
  obtain ⟨x0, x1, x2, x3, x4, xl⟩ := part_cells (p := ⟨pe, pn, pc, pi, pb⟩) hx3
  simp only at x0 x1 x2 x3 x4
  have HB2 := hidb (HB.out _ _ M3)
  have ha1 := and_255 pi hi
  have ha2 := and_255 pc hc
  go_upto_region 4 with (first
    | (go_at_call 88; refine HB2.out.mono ?_; clear HB2; rintro e w4 ⟨v4, rfl, M4, -⟩)
    | fail)
  clear x0 x1 x2 x3 x4 xl ha1 ha2 hx3 HB
  obtain ⟨hx4, hbw4⟩ := HK.out _ _ _ M4
  obtain ⟨x0, x1, x2, x3, x4, xl⟩ := part_cells (p := ⟨pe, pn, pc, pi, pb⟩) hx4
  simp only at x0 x1 x2 x3 x4
  obtain ⟨hd, hhd⟩ : ∃ hd, hd = ([] ++ ints [pe, pn]) ++ byts [pi / 256, pi % 256, pc / 256, pc % 256, (pb.length : Int)] := ⟨_, rfl⟩
  rw [← hhd] at M4 HS
  have hdl : hd.length = 21 := by rw [hhd]; simp [ints_length, byts]
  have HBy := hidb (fun W (h : Below w4.heap.size w4 W) => bytes_any _ _ _ v4 hd W (M4.H.chg (Chg.of_below h (S := fun _ => False)) id id) (Own.below M4.hO h) (by omega))
  have HSk := hidb (fun W (h : Below w4.heap.size w4 W) => part_cells (p := ⟨pe, pn, pc, pi, pb⟩) ((h.block _ xl).trans hx4))
  obtain ⟨rc, hrc⟩ : ∃ rc : Nat, rc = 43 - pb.length := ⟨_, rfl⟩
  have hwr : IntKind.i64.wrap (43 - (pb.length : Int)) = (rc : Int) := by rw [IntKind.wrap_i64]; omega
  have hrc43 : rc ≤ 43 := by omega
  have hz : Below w4.heap.size w4 w4.drew := (Below.refl _ w4).drew
  have hrl : Lib.repeatL [(0 : UInt8)] rc = List.replicate rc 0 := by
    clear hrc hwr hrc43
    induction rc with
    | zero => rfl
    | succ n ih => rw [List.replicate_succ, ← ih]; rfl
  have HRp : Hid (∀ W, Calls Tryz.prog 90 #[.string ⟨#[0]⟩, .int .i64 rc] W fun e w' => e = .returned (sv (List.replicate rc 0)) ∧ Below W.heap.size W w') := hidb fun W => (Tryz.strings_Repeat ⟨#[0]⟩ rc W (by omega) (by show 1 * rc ≤ _; omega)).mono fun e w' ⟨h1, h2⟩ => ⟨by rw [h1, show (⟨#[0]⟩ : ByteArray).data.toList = [(0 : UInt8)] from rfl, hrl], h2⟩
  have HHd := hidb hhd
  have HRc := hidb hrc
  clear hhd hx4 hrl hrc x0 x1 x2 x3 x4 xl
  obtain ⟨x0, x1, x2, x3, x4, xl⟩ := HSk.out _ (Below.refl _ w4)
  simp only at HSk x0 x1 x2 x3 x4
  go_region_held (fun W => W.cell? ⟨w.heap.size, 0, none⟩ = some (.int .i64 pe) ∧ W.cell? ⟨w.heap.size, 1, none⟩ = some (.int .i64 pn) ∧ W.cell? ⟨w.heap.size, 2, none⟩ = some (.int .i64 pc) ∧ W.cell? ⟨w.heap.size, 3, none⟩ = some (.int .i64 pi) ∧ W.cell? ⟨w.heap.size, 4, none⟩ = some (sv pb) ∧ w.heap.size < W.heap.size) (first | exact HSk.out _ hz | go_keep) (first
    | (go_at_call 89; refine (HBy.out _ hz).mono ?_; clear HBy; rintro e w5 ⟨rfl, hO5, hb5⟩; replace hz := hz.trans (hb5.mono hz.size); obtain ⟨sa, sc, hsv, _, _, hB5, _, _⟩ := Own.bs hO5; injection hsv with e1 e2 e3; subst e1 e3; (try rw [show w4.drew.heap.size = w4.heap.size from rfl] at hB5); have hcv := run_str hB5 21; rw [hdl] at hcv; clear hO5 hb5)
    | (go_at_call 90; refine (HRp.out _).mono ?_; clear HRp; rintro e w6 ⟨rfl, hb6⟩; replace hz := hz.trans (hb6.mono hz.size); (first | (replace hB5 := hB5.keep (below_keep hb6); have hcv2 := run_str hB5 21; rw [hdl] at hcv2) | skip); clear hb6))
  all_goals
    go_wp2_with fail
    go_ret
    rw [HS.out, ← HRc.out]
    exact ⟨congrArg (fun b => Ending.returned (.string b)) (str3 hd pb rc), hbw4.trans (hz.mono hbw4.size)⟩
end Go.Proofs.YthmjejmignangaaGreatDoor
namespace Go.Proofs.YthmjejmignangaaGreatDoor
open Go.RowKit
def cntS (b : Bt) : Nat := max ((b.length + 42) / 43) 1
/-- The sectors of a record. -/
def splitL (e n : Int) (b : Bt) : List Bt := (List.range (cntS b)).map fun (i : Nat) => secB ⟨e, n, cntS b, i, (b.drop (i * 43)).take 43⟩
theorem splitL_length (e n : Int) (b : Bt) : (splitL e n b).length = cntS b := by simp [splitL]
abbrev svl (l : List Bt) : List Value := l.map fun b => sv b
theorem splitL_succ (e n : Int) (b : Bt) (i : Nat) (h : i < cntS b) : (splitL e n b).take (i + 1) = (splitL e n b).take i ++ [secB ⟨e, n, cntS b, i, (b.drop (i * 43)).take 43⟩] := by
  rw [List.take_add_one]
  congr 1
  unfold splitL
  rw [List.getElem?_map, List.getElem?_range h]
  rfl
/-- What Split answers. -/
def SplitEnd (e n : Int) (b : Bt) (w : World) (x : Ending) (w' : World) : Prop := ∃ a m c, x = .returned (.tuple #[.slice a m c, .int .i64 0]) ∧ Hid (m = (splitL e n b).length ∧ Own w' w.heap.size 9 (.slice a m c) (svl (splitL e n b)) ∧ Below w.heap.size w w')
theorem makeS16 (n : Nat) (hn : n ≤ 1000000) : ∀ V : World, (Instr.makeSlice 54 (.int .i64 (n : Int)) (.int .i64 (n : Int))).run Tryz.prog V = .ok (.slice (some ⟨V.heap.size, 0, none⟩) n n) (V.alloc (.cells (madeCells #[.string ⟨#[]⟩] n) 9)) := by
  intro V
  obtain ⟨i0, hi, hz0, hz1, hz2⟩ := info_parts (show (Tryz.prog.info? 9).map (fun i => (i.zero, i.size, i.bytes)) = some (some (.string ⟨#[]⟩), 1, 16) by kernel_rfl)
  have hr := run_make (P := Tryz.prog) V 54 9 i0 (.string ⟨#[]⟩) Tryz.underlying54 hi hz0 .i64 .i64 (n : Int) (n : Int) (by omega) (by omega) (by rw [hz2]; omega) (by omega)
  simpa only [Int.toNat_natCast, hz1, Nat.mul_one, Value.cells] using hr
set_option maxHeartbeats 4000000 in
set_option maxRecDepth 100000 in
theorem split_any16 (ep nm : Int) (he : stmpB ep = true) (hn : stmpB nm = true) (bB bo : Nat) (len cap : Nat) (b : Bt) (hl : b.length = len) (hlen : len ≤ 176128) (hcap : len ≤ cap) (w : World) (hb : Bs w (some ⟨bB, bo, none⟩) b) : Calls Tryz.prog 33 #[.int .i64 ep, .int .i64 nm, .slice (some ⟨bB, bo, none⟩) len cap] w (SplitEnd ep nm b w) := by
  have HS1 := hidb (stamp_any ep)
  have HS2 := hidb (stamp_any nm)
  rw [he] at HS1
  rw [hn] at HS2
  have hd1 : decide ((176128 : Int) < (len : Int)) = false := by simp; omega
  obtain ⟨c, hc⟩ : ∃ c, c = cntS b := ⟨_, rfl⟩
  have hc1 : 1 ≤ c := by rw [hc]; unfold cntS; omega
  have hc2 : c ≤ 4096 := by rw [hc]; unfold cntS; omega
  have hcm : max (((len : Int) + 43 - 1) / 43) 1 = (c : Int) := by rw [hc]; unfold cntS; omega
  have hw1 : IntKind.i64.wrap ((len : Int) + 43) = (len : Int) + 43 := by rw [IntKind.wrap_i64]; omega
  have hw2 : IntKind.i64.wrap ((len : Int) + 43 - 1) = (len : Int) + 43 - 1 := by rw [IntKind.wrap_i64]; omega
  have hmk := makeS16 c (by omega)
  have HC := hidb hc
  have HL := hidb hl
  have HB := hidb hb
  clear hc hl hb he hn
  go_enter Tryz.func33, Tryz.ntmps33
  go_upto_region 8 with (first
    | (go_at_call 62; refine (HS1.out _).mono ?_; clear HS1; rintro e w1 ⟨rfl, e1⟩; obtain rfl := e1.symm)
    | (go_at_call 62; refine (HS2.out _).mono ?_; clear HS2; rintro e w1 ⟨rfl, e1⟩; obtain rfl := e1.symm)
    | fail)
  have hb0 : Below w.heap.size w (w.alloc (.cells (madeCells #[.string ⟨#[]⟩] c) 9)) := (Below.refl _ w).alloc (Nat.le_refl _) _
  have hg0 := heap_alloc_new w (.cells (madeCells #[.string ⟨#[]⟩] c) 9)
  have hmc : madeCells #[Value.string ⟨#[]⟩] c = (svl ((splitL ep nm b).take 0) ++ List.replicate (c - 0) (Value.string ⟨#[]⟩)).toArray := by
    apply Array.ext
    · simp [madeCells]
    · intro j h1 h2
      simp [madeCells, Nat.mod_one]
  rw [hmc] at hg0 hb0
  have HG0 : Hid ((w.alloc (.cells (madeCells #[.string ⟨#[]⟩] c) 9)).heap[w.heap.size]? = some (.cells (svl ((splitL ep nm b).take 0) ++ List.replicate (c - 0) (Value.string ⟨#[]⟩)).toArray 9 (0, 0))) := hidb (by rw [← hmc]; rw [← hmc] at hg0; exact hg0)
  rw [← hmc] at hb0
  clear hg0 hmc hmk hd1 hcm hw1 hw2
  go_loopw [34] (fun iv wr => ∃ i : Nat, iv = .int .i64 i ∧ i ≤ c ∧ Hid (Below w.heap.size w wr ∧ wr.heap[w.heap.size]? = some (.cells (svl ((splitL ep nm b).take i) ++ List.replicate (c - i) (Value.string ⟨#[]⟩)).toArray 9 (0, 0)))) (fun iv _ => c - (intOf iv).toNat)
  case atStart => exact ⟨0, rfl, Nat.zero_le _, hidb ⟨hb0, HG0.out⟩⟩
  case round =>
    obtain ⟨i, rfl, hi, HI⟩ := hrel
    clear hb0 HG0
    by_cases hic : i < c
    · have hic2 : (i : Int) < (c : Int) := by omega
      have hle : i * 43 ≤ len := by have := HC.out; have := HL.out; unfold cntS at *; omega
      obtain ⟨hh, hhh⟩ : ∃ hh : Nat, hh = min (i * 43 + 43) len := ⟨_, rfl⟩
      have hwa : IntKind.i64.wrap ((i : Int) * 43) = ((i * 43 : Nat) : Int) := by rw [IntKind.wrap_i64]; omega
      obtain ⟨lo, hlo⟩ : ∃ lo, lo = i * 43 := ⟨_, rfl⟩
      rw [← hlo] at hwa hle hhh
      have hwb : IntKind.i64.wrap ((lo : Int) + 43) = (lo : Int) + 43 := by rw [IntKind.wrap_i64]; omega
      have hmin : min ((lo : Int) + 43) (len : Int) = (hh : Int) := by omega
      have s1 : (lo : Int) ≤ (hh : Int) := by omega
      have s2 : (hh : Int) ≤ (cap : Int) := by omega
      have s3 : lo ≤ hh := by omega
      have s4 : hh ≤ cap := by omega
      have hseg : ((b.drop lo).take 43).length = hh - lo := by rw [List.length_take, List.length_drop, HL.out, hhh]; omega
      have hbs : Bs wr (some ⟨bB, bo + lo, none⟩) ((b.drop lo).take 43) := by
        rcases HB.out.keep (below_keep HI.out.1) with h | ⟨B', o', h1, h2⟩
        · exact .inl (by rw [h]; simp)
        · injection h1 with h1
          injection h1 with q1 q2 _
          subst q1 q2
          refine .inr ⟨bB, bo + lo, rfl, fun j hj => ?_⟩
          rw [hseg] at hj
          have := h2 (lo + j) (by rw [HL.out]; omega)
          rw [show bo + (lo + j) = bo + lo + j by omega] at this
          simpa using this
      obtain ⟨sg, hsg⟩ : ∃ sg, sg = (b.drop lo).take 43 := ⟨_, rfl⟩
      rw [← hsg] at hseg hbs
      have hcv := run_str hbs (cap - lo)
      rw [hseg] at hcv
      have HSg := hidb hsg
      have hsg43 : sg.length ≤ 43 := by rw [hsg]; simp; omega
      have HH := hidb hhh
      have HLo := hidb hlo
      have hnil : cap = lo → len = lo ∧ hh = lo ∧ sg = [] := fun h => ⟨by omega, by omega, List.eq_nil_of_length_eq_zero (by rw [hseg]; omega)⟩
      clear hsg hseg hbs hhh hlo
      have HSe := hidb (fun V => sector_any16 ⟨ep, nm, c, i, sg⟩ ⟨by show (0 : Int) ≤ i; omega, by show (i : Int) ≤ 65535; omega⟩ ⟨by show (0 : Int) ≤ c; omega, by show (c : Int) ≤ 65535; omega⟩ hsg43 V)
      obtain ⟨W2, hW2⟩ : ∃ W2, W2 = wr.alloc (.cells #[.int .i64 ep, .int .i64 nm, .int .i64 c, .int .i64 i, sv sg] 71) := ⟨_, rfl⟩
      have hbx : W2.heap[wr.heap.size]? = some (.cells #[.int .i64 ep, .int .i64 nm, .int .i64 c, .int .i64 i, sv sg] 71 (0, 0)) := by rw [hW2]; exact heap_alloc_new wr _
      have hw2 : Below wr.heap.size wr W2 := by rw [hW2]; exact (Below.refl _ wr).alloc (Nat.le_refl _) _
      have HFin : Hid (∀ V, Below W2.heap.size W2 V → V.cell? ⟨w.heap.size, i, none⟩ = some (.string ⟨#[]⟩) ∧ V.frozen? ⟨w.heap.size, i, none⟩ = false ∧ w.heap.size < V.heap.size ∧ Below w.heap.size w (V.setCell ⟨w.heap.size, i, none⟩ (sv (secB ⟨ep, nm, c, i, sg⟩))) ∧ (V.setCell ⟨w.heap.size, i, none⟩ (sv (secB ⟨ep, nm, c, i, sg⟩))).heap[w.heap.size]? = some (.cells (svl ((splitL ep nm b).take (i + 1)) ++ List.replicate (c - (i + 1)) (Value.string ⟨#[]⟩)).toArray 9 (0, 0))) := hidb fun V hV => by
        obtain ⟨h1, h2⟩ := HI.out
        have hV2 := hw2.trans (hV.mono hw2.size)
        have h3 := (hV2.block _ (lt_of_block h2)).trans h2
        have hbw : Below w.heap.size w V := h1.trans (hV2.mono h1.size)
        have hlen2 : (svl ((splitL ep nm b).take i)).length = i := by simp [splitL_length]; have := HC.out; omega
        refine ⟨?_, Lib.frozen_of_heap h3 i, lt_of_block h3, hbw.setCell (Nat.le_refl _) _, ?_⟩
        · rw [Lib.cell_of_heap h3, List.getElem?_toArray, List.getElem?_append_right (by omega), hlen2, Nat.sub_self, List.getElem?_replicate, if_pos (by omega)]
        · rw [heap_setCell_same _ _ _ _ _ _ h3]
          congr 2
          rw [List.setIfInBounds_toArray, List.set_append_right _ _ (by omega), hlen2, Nat.sub_self, splitL_succ ep nm b i (by have := HC.out; omega), ← HC.out, ← HLo.out, ← HSg.out]
          rw [show c - i = (c - (i + 1)) + 1 by omega, List.replicate_succ, List.set_cons_zero]
          simp
      by_cases hcl : cap = lo
      · obtain ⟨n1, n2, n3⟩ := hnil hcl
        have hcv0 : (convert 29 9 (.slice (some ⟨bB, bo, none⟩) 0 0)).run Tryz.prog wr = .ok (sv []) wr := run_str (bs := []) (.inl rfl) 0
        clear hnil hcv
        subst n1
        subst n2
        subst n3
        subst hcl
        go_upto_region 12 with fail
        rw [← hW2]
        clear hW2 hcv0
        obtain ⟨x0, x1, x2, x3, x4, xl⟩ := part_cells (p := ⟨ep, nm, c, i, []⟩) hbx
        simp only at x0 x1 x2 x3 x4
        go_wp2_with (first
          | (go_at_call 63; refine (HSe.out _).mono ?_; clear HSe; rintro e V ⟨rfl, hV⟩; obtain ⟨y0, y1, y2, y3, y4⟩ := HFin.out V hV; have HY := hidb (And.intro y3 y4); clear HFin y3 y4)
          | fail)
        exact ⟨⟨i + 1, by simp, by omega, HY⟩, by simp [intOf]; omega⟩
      · clear hnil
        go_upto_region 12 with fail
        rw [← hW2]
        clear hW2 hcv
        obtain ⟨x0, x1, x2, x3, x4, xl⟩ := part_cells (p := ⟨ep, nm, c, i, sg⟩) hbx
        simp only at x0 x1 x2 x3 x4
        go_wp2_with (first
          | (go_at_call 63; refine (HSe.out _).mono ?_; clear HSe; rintro e V ⟨rfl, hV⟩; obtain ⟨y0, y1, y2, y3, y4⟩ := HFin.out V hV; have HY := hidb (And.intro y3 y4); clear HFin y3 y4)
          | fail)
        exact ⟨⟨i + 1, by simp, by omega, HY⟩, by simp [intOf]; omega⟩
    · obtain rfl : i = c := by omega
      have hrow : Own wr w.heap.size 9 (.slice (some ⟨w.heap.size, 0, none⟩) i i) (svl (splitL ep nm b)) := by
        have h2 := HI.out.2
        have hll : (splitL ep nm b).length = i := by rw [splitL_length]; exact HC.out.symm
        rw [List.take_of_length_le (by omega), Nat.sub_self, List.replicate_zero, List.append_nil] at h2
        have hvl : (svl (splitL ep nm b)).length = i := by rw [List.length_map]; exact hll
        exact ⟨by simp, .inr ⟨w.heap.size, i, (svl (splitL ep nm b)).toArray, by rw [hvl], Nat.le_refl _, h2, by omega, by unfold maxLen; omega, by simp only [List.size_toArray]; omega, by rw [Nat.mul_one]; exact List.take_of_length_le (by rw [hvl]; exact Nat.le_refl _)⟩⟩
      have HR := hidb (And.intro hrow HI.out.1)
      have hll : i = (splitL ep nm b).length := by rw [splitL_length]; exact HC.out
      have HLL := hidb hll
      clear hrow hll HI
      go_wp2_with fail
      go_ret2
      exact ⟨_, _, _, rfl, hidb ⟨HLL.out, HR.out.1, HR.out.2⟩⟩
end Go.Proofs.YthmjejmignangaaGreatDoor
