/- Layer 18: the law ViewAlone. -/
import Derived.Test.YtaonchdpnllhpaaV9a
import Derived.Test.YtaonchdpnllhpaaLVC18
namespace Go.Proofs.Ytaonchdpnllhpaa
open Go.RowKit
/-- Texts that came in. -/
def TextsAt18 (W : World) (a : Option Addr) (L : List (List UInt8)) : Prop := ∀ j (h : j < L.length), ∃ b off, a = some ⟨b, off, none⟩ ∧ W.cell? ⟨b, off + j, none⟩ = some (.string ⟨L[j].toArray⟩) ∧ b < W.heap.size
theorem AL.rd {w0 : World} {tb rr rc n lc m ac : Nat} {R : RC} {la sa : Option Addr} {E : List Ent} {xs : List Value} {Rs : List Rec17} {W : World} (h : AL w0 tb rr rc R n la lc E m sa ac xs Rs W) : W.cell? ⟨tb, 1, none⟩ = some (.slice (some ⟨rr, 0, none⟩) 1 rc) ∧ W.cell? ⟨rr, 0, none⟩ = some (.pointer (some ⟨R.rb, 0, none⟩)) ∧ tb < W.heap.size ∧ rr < W.heap.size := by
  have ht := h.t
  unfold TownBox at ht
  exact ⟨by rw [Lib.cell_of_heap ht]; rfl, h.r.cell.1, lt_of_block ht, h.r.lt⟩
/-- Behind a request: the work lies in its box. -/
def RqMid (w : World) (tb rr rc : Nat) (R : RC) (i : Nat) (E : List Ent) (m : Nat) (sa : Option Addr) (sc : Nat) (xs : List Value) (Rs : List Rec17) (d : List UInt8) (kb : Nat) (a2 : Option Addr) (ac2 : Nat) (d2 : Option Addr) (dc2 : Nat) (W : World) : Prop := ∃ la' lc' ys, AL w tb rr rc R (i + 1) la' lc' (E ++ [⟨0, d⟩]) m sa sc xs Rs W ∧ W.ownsRow w.heap.size 85 5 (.slice a2 2 ac2) 2 ys ∧ RecVals (PLog w (Value.slice la' (i + 1) lc').ownBlock W) ys (recA i d) ∧ W.heap[kb]? = some (.cells #[.slice a2 2 ac2, .slice d2 0 dc2] 35 (0, 0))
theorem RqMid.new {w : World} {tb rr rc : Nat} {R : RC} {i : Nat} {E : List Ent} {m : Nat} {sa : Option Addr} {sc : Nat} {xs : List Value} {Rs : List Rec17} {d : List UInt8} {a2 : Option Addr} {ac2 : Nat} {d2 : Option Addr} {dc2 : Nat} {la' : Option Addr} {lc' : Nat} {ys : List Value} {W : World} (q1 : AL w tb rr rc R (i + 1) la' lc' (E ++ [⟨0, d⟩]) m sa sc xs Rs W) (q2 : W.ownsRow w.heap.size 85 5 (.slice a2 2 ac2) 2 ys) (q3 : RecVals (PLog w (Value.slice la' (i + 1) lc').ownBlock W) ys (recA i d)) : RqMid w tb rr rc R i E m sa sc xs Rs d W.heap.size a2 ac2 d2 dc2 (W.alloc (.cells #[.slice a2 2 ac2, .slice d2 0 dc2] 35)) := by
  have hb : Below W.heap.size W (W.alloc (.cells #[.slice a2 2 ac2, .slice d2 0 dc2] 35)) := (Below.refl _ W).alloc (Nat.le_refl _) _
  exact ⟨la', lc', ys, q1.below hb, row_below2 q2 hb, q3.mono fun _ _ _ hp => ⟨row_below2 hp.1 hb, hp.2⟩, heap_alloc_new _ _⟩
theorem RqMid.old {w : World} {tb rr rc : Nat} {R : RC} {i : Nat} {E : List Ent} {m : Nat} {sa : Option Addr} {sc : Nat} {xs : List Value} {Rs : List Rec17} {d : List UInt8} {a2 : Option Addr} {ac2 : Nat} {d2 : Option Addr} {dc2 kb : Nat} {la' : Option Addr} {lc' : Nat} {ys : List Value} {W : World} (hk : W.heap[kb]? = some (.cells #[.slice none 0 0, .slice none 0 0] 35 (0, 0))) (hw : w.heap.size ≤ kb) (q1 : AL w tb rr rc R (i + 1) la' lc' (E ++ [⟨0, d⟩]) m sa sc xs Rs W) (q2 : W.ownsRow w.heap.size 85 5 (.slice a2 2 ac2) 2 ys) (q3 : RecVals (PLog w (Value.slice la' (i + 1) lc').ownBlock W) ys (recA i d)) : RqMid w tb rr rc R i E m sa sc xs Rs d kb a2 ac2 d2 dc2 ((W.setCell ⟨kb, 0, none⟩ (.slice a2 2 ac2)).setCell ⟨kb, 1, none⟩ (.slice d2 0 dc2)) := by
  have k1 := heap_setCell_same W kb 0 _ _ (.slice a2 2 ac2) hk
  exact ⟨la', lc', ys, (q1.box hk hw _).box k1 hw _, row_keep18 (row_keep18 q2 (row_apart18 q2 hk (by decide)) _) (row_apart18 q2 hk (by decide)) _, q3.mono fun _ _ _ hp => ⟨row_keep18 (row_keep18 hp.1 (row_apart18 hp.1 hk (by decide)) _) (row_apart18 hp.1 hk (by decide)) _, hp.2⟩, heap_setCell_same _ _ _ _ _ _ k1⟩
def LI18 (w : World) (tb rr rc : Nat) (A : List (List UInt8)) (i : Nat) (W : World) : Prop := (∀ d ∈ A.take i, d.length ≤ 16384) ∧ ∃ R la lc sa ac xs, AL w tb rr rc R i la lc (entA (A.take i)) (2 * i) sa ac xs (recsA 0 (A.take i)) W
theorem LI18.below {w : World} {tb rr rc i : Nat} {A : List (List UInt8)} {W W' : World} (h : LI18 w tb rr rc A i W) (hb : Below W.heap.size W W') : LI18 w tb rr rc A i W' := by
  obtain ⟨hd, R, la, lc, sa, ac, xs, h⟩ := h
  exact ⟨hd, R, la, lc, sa, ac, xs, h.below hb⟩
theorem alone_crash18 {w : World} {tb rr rc i : Nat} {A : List (List UInt8)} {W : World} (h : LI18 w tb rr rc A i W) (hi : i ≤ A.length) (hi2 : i ≤ 60) (hrr : w.heap.size ≤ rr) : Calls Try.prog 13 #[.pointer (some ⟨tb, 0, none⟩), .int .i64 0] W fun e W' => e = .returned (.bool true) ∧ Hid (LI18 w tb rr rc A i W') := by
  obtain ⟨hd, R, la, lc, sa, ac, xs, h⟩ := h
  have el : (A.take i).length = i := by simp; omega
  have h' : AL w tb rr rc R (A.take i).length la lc (entA (A.take i)) (2 * i) sa ac xs (recsA 0 (A.take i)) W := by rw [el]; exact h
  refine (h'.crash hd (by omega) hrr).mono ?_
  rintro e W' ⟨rfl, h2⟩
  obtain ⟨R', la', lc', h2⟩ := h2.out
  rw [el] at h2
  exact ⟨rfl, hid ⟨hd, R', la', lc', sa, ac, xs, h2⟩⟩
theorem cellsE_at (L : List Ent) : ∀ (i : Nat) (h : i < L.length), (cellsE L)[i * 2 + 1]? = some (.string ⟨L[i].d.toArray⟩) := by
  induction L with
  | nil => intro i h; simp at h
  | cons x r ih =>
    intro i h
    rcases i with _ | i
    · rfl
    · show (Value.int .i64 x.v :: .string ⟨x.d.toArray⟩ :: cellsE r)[(i + 1) * 2 + 1]? = _
      rw [show (i + 1) * 2 + 1 = (i * 2 + 1) + 1 + 1 by omega, List.getElem?_cons_succ, List.getElem?_cons_succ]
      exact ih i (by simpa using h)
theorem alone_rd18 {w : World} {tb rr rc i : Nat} {A : List (List UInt8)} {W : World} (h : LI18 w tb rr rc A (i + 1) W) (hi : i < A.length) (hi2 : i < 60) : ∃ R : RC, W.cell? ⟨tb, 1, none⟩ = some (.slice (some ⟨rr, 0, none⟩) 1 rc) ∧ W.cell? ⟨rr, 0, none⟩ = some (.pointer (some ⟨R.rb, 0, none⟩)) ∧ tb < W.heap.size ∧ rr < W.heap.size ∧ Hid (Below w.heap.size w W) ∧ Hid (Calls Try.prog 10 #[.pointer (some ⟨R.rb, 0, none⟩)] W fun e w' => ∃ g sc, e = .returned (.agg #[.int .i64 0, .int .i64 0, .int .i64 ((i + 1 : Nat) : Int), .slice (some ⟨g, 0, none⟩) (i + 1) sc]) ∧ w'.cell? ⟨g, i * 2 + 1, none⟩ = some (.string ⟨(A[i]'hi).toArray⟩) ∧ g < w'.heap.size ∧ i + 1 ≤ sc ∧ Below W.heap.size W w') ∧ Hid (∀ W', Below W.heap.size W W' → Calls Try.prog 14 #[.pointer (some ⟨R.rb, 0, none⟩)] W' fun e w' => e = .returned (.bool true) ∧ ∃ m, w' = W'.drewN m) := by
  obtain ⟨hd, R, la, lc, sa, ac, xs, h⟩ := h
  obtain ⟨c1, c2, l1, l2⟩ := h.rd
  refine ⟨R, c1, c2, l1, l2, hid h.b.b, hid ?_, hid fun W' hb => ?_⟩
  · refine (state_any18 W h.b.a (by omega)).mono ?_
    rintro e w' ⟨sa, sc, rfl, hr, hb⟩
    have hr' := hr
    obtain ⟨a', c', e1, hle, -, hr⟩ := row_form hr
    injection e1 with e1 e2 e3
    subst e1 e3
    rcases hr with ⟨-, q, -⟩ | ⟨g, rfl, -, hg, hc⟩
    · omega
    · refine ⟨g, sc, rfl, ?_, hg, hle, hb⟩
      have hl : (A.take (i + 1)).length = i + 1 := by simp; omega
      have := hc _ _ (cellsE_at (entA (A.take (i + 1))) i (by simp [entA]; omega))
      rw [this]
      simp [entA]
  · have := rleads_any18 0 W' (h.below hb).b.a (by show 1 ≤ 1; decide) (by show 1 ≤ 7; decide) rfl (by decide)
    rw [show (ptL 1 ((i + 1 : Nat) : Int)).leads 0 = true by simp [Pt.leads, ptL]] at this
    exact this
set_option maxRecDepth 100000 in
set_option maxHeartbeats 2000000 in
theorem alone18_any (aa : Option Addr) (an ac : Nat) (A : List (List UInt8)) (ta : Option Addr) (tn tc : Nat) (L : List Bool) (w : World) (hal : A.length = an) (hac : an ≤ ac) (hA : TextsAt18 w aa A) (hl : L.length = tn) (hL : BoolsAt w ta L) : Calls Try.prog 4 #[.slice aa an ac, .slice ta tn tc] w fun e w' => e = .returned (.bool true) ∧ Below w.heap.size w w' := by
  have HN := hid (town1_18 w)
  have HU : Hid (∀ W, Calls Try.prog 6 #[.int .i64 0] W fun e w' => e = .returned (.int .i64 0) ∧ w' = W) := hid fun W => num18_any 0 W
  have HK : Hid (∀ W, Calls Try.prog 7 #[] W fun e w' => e = .returned (.bool true) ∧ Below W.heap.size W w') := hid fun W => knows18_any W
  go_enter Try.func4, Try.ntmps4
  go_wp2_with (first
    | (go_at_call 11; refine HN.out.mono ?_; clear HN; rintro e W1 ⟨tb, rr, rc, R, la, lc, rfl, h1⟩)
    | (go_at_call 7; refine (HK.out _).mono ?_; clear HK; rintro e W2 ⟨rfl, b2⟩)
    | fail)
  have H0 : Hid (w.heap.size ≤ tb ∧ w.heap.size ≤ rr ∧ AL w tb rr rc R 0 la lc (entA (A.take 0)) 0 none 0 [] (recsA 0 (A.take 0)) W2) := by
    obtain ⟨ht, hr, hv, hb, e1, e2⟩ := h1
    exact hid ⟨e1, e2, AL.below ⟨ht, hr, hv, hb, World.ownsRow_nil _ _ _ _, RecVals.nil _⟩ b2⟩
  clear h1 b2
  obtain ⟨e1, e2, h0⟩ := H0.out
  have H1 : Hid (LI18 w tb rr rc A 0 W2) := hid ⟨fun d hd => by simp at hd, R, la, lc, none, 0, [], h0⟩
  clear h0 H0
  go_loopw [0, 6] (fun av iv wr => av = .slice aa an ac ∧ ∃ i : Nat, iv = .int .i64 i ∧ i ≤ an ∧ i ≤ 60 ∧ Hid (LI18 w tb rr rc A i wr)) (fun _ iv _ => 60 - (intOf iv).toNat)
  case atStart => exact ⟨rfl, 0, rfl, by omega, by omega, H1⟩
  case round =>
    clear H1 R la lc
    obtain ⟨rfl, i, rfl, hi1, hi2, HX⟩ := hrel
    by_cases hgo : i < an ∧ i < 60
    · have g1 : decide ((i : Int) < (an : Int)) = true := by simp; omega
      have g2 : decide ((i : Int) < 60) = true := by simp; omega
      have g3 : (i : Int) < (an : Int) := by omega
      obtain ⟨ab, ao, rfl, qa, la1⟩ := hA i (by omega)
      have HQ := hid (And.intro qa la1)
      obtain ⟨hd, R, la, lc, sa, sc, xs, hAL⟩ := HX.out
      have hbl := hAL.b.b
      have qa1 := below_keep18 hbl _ _ qa
      have la2 : ab < wr.heap.size := Nat.lt_of_lt_of_le la1 hbl.size
      obtain ⟨c1, c2, l1, l2⟩ := hAL.rd
      obtain ⟨d, hd0⟩ : ∃ d, d = A[i]'(by omega) := ⟨_, rfl⟩
      rw [← hd0] at qa1
      have HD := hid hd0
      clear hd0
      have g5 : i ≤ ac := by omega
      have g6 : ¬ ac < i := by omega
      by_cases hbig : d.length ≤ 16384
      · have g4 : ¬ (16384 : Int) < (d.length : Int) := by omega
        have HR : Hid (∀ W, Below wr.heap.size wr W → _) := hid fun W hW => (hAL.below hW).request d hbig (by omega)
        have ba : Below wr.heap.size wr (wr.alloc (.cells #[.slice none 0 0, .slice none 0 0] 35)).drew := ((Below.refl _ wr).alloc (Nat.le_refl _) _).drew
        have hws : w.heap.size ≤ wr.heap.size := hbl.size
        have HB := hid hbl
        have HF : Hid (∀ W la' lc' E' m' sa' sc' xs' Rs', AL w tb rr rc R (i + 1) la' lc' E' m' sa' sc' xs' Rs' W → W.cell? ⟨tb, 1, none⟩ = some (.slice (some ⟨rr, 0, none⟩) 1 rc) ∧ W.cell? ⟨rr, 0, none⟩ = some (.pointer (some ⟨R.rb, 0, none⟩)) ∧ W.cell? ⟨ab, ao + i, none⟩ = some (.string ⟨d.toArray⟩) ∧ tb < W.heap.size ∧ rr < W.heap.size ∧ ab < W.heap.size) := hid fun W la' lc' E' m' sa' sc' xs' Rs' h => by
          obtain ⟨q1, q2, q3, q4⟩ := h.rd
          rw [← HD.out] at qa
          exact ⟨q1, q2, below_keep18 h.b.b _ _ qa, q3, q4, Nat.lt_of_lt_of_le la1 h.b.b.size⟩
        have HG : Hid (∀ kb a2 ac2 d2 dc2 W, RqMid w tb rr rc R i (entA (A.take i)) (2 * i) sa sc xs (recsA 0 (A.take i)) d kb a2 ac2 d2 dc2 W → W.cell? ⟨tb, 1, none⟩ = some (.slice (some ⟨rr, 0, none⟩) 1 rc) ∧ W.cell? ⟨rr, 0, none⟩ = some (.pointer (some ⟨R.rb, 0, none⟩)) ∧ W.cell? ⟨ab, ao + i, none⟩ = some (.string ⟨d.toArray⟩)) := hid fun kb a2 ac2 d2 dc2 W h => by
          obtain ⟨la', lc', ys, q, -⟩ := h
          obtain ⟨x1, x2, x3, -⟩ := HF.out _ _ _ _ _ _ _ _ _ q
          exact ⟨x1, x2, x3⟩
        clear hAL hbl qa la1
        go_wp2_with fail
        have hka : (wr.alloc (.cells #[.slice none 0 0, .slice none 0 0] 35)).drew.heap[wr.heap.size]? = some (.cells #[.slice none 0 0, .slice none 0 0] 35 (0, 0)) := heap_alloc_new _ _
        have HX2 := hid hka
        have n1 : tb ≠ wr.heap.size := by omega
        have n2 : rr ≠ wr.heap.size := by omega
        have n3 : ab ≠ wr.heap.size := by omega
        clear hka
        go_cut [7, 8, 9] (fun nv bv ev wx => nv = .int .i64 ((i : Int) + 1) ∧ ev = .int .i64 0 ∧ ∃ kb a2 ac2 d2 dc2, bv = .pointer (some ⟨kb, 0, none⟩) ∧ Hid (RqMid w tb rr rc R i (entA (A.take i)) (2 * i) sa sc xs (recsA 0 (A.take i)) d kb a2 ac2 d2 dc2 wx))
        case first =>
          go_region_held3 (fun W => W.cell? ⟨tb, 1, none⟩ = some (.slice (some ⟨rr, 0, none⟩) 1 rc) ∧ W.cell? ⟨rr, 0, none⟩ = some (.pointer (some ⟨R.rb, 0, none⟩)) ∧ W.cell? ⟨ab, ao + i, none⟩ = some (.string ⟨d.toArray⟩)) (first | go_keep | exact HG.out _ _ _ _ _ _ H4.out) (first
            | (go_at_call 8; refine (HR.out wr.drew (below_drew18 wr)).mono ?_; clear HR; rintro e W3 ⟨a2, ac2, d2, dc2, rfl, H3⟩; obtain ⟨la3, lc3, ys3, q1, q2, q3, -⟩ := H3.out; obtain ⟨x1, x2, x3, y1, y2, y3⟩ := HF.out _ _ _ _ _ _ _ _ _ q1; have H4 := hid (RqMid.new (d2 := d2) (dc2 := dc2) q1 q2 q3); clear q1 q2 q3 H3)
            | (go_at_call 8; refine (HR.out _ ba).mono ?_; clear HR; rintro e W3 ⟨a2, ac2, d2, dc2, rfl, H3⟩; obtain ⟨la3, lc3, ys3, q1, q2, q3, q4⟩ := H3.out; have kX := (q4 _ _ HX2.out).trans HX2.out; obtain ⟨x1, x2, x3, y1, y2, y3⟩ := HF.out _ _ _ _ _ _ _ _ _ q1; have H4 := hid (RqMid.old (d2 := d2) (dc2 := dc2) kX hws q1 q2 q3); have z1 : W3.cell? ⟨wr.heap.size, 0, none⟩ = some (.slice none 0 0) := (by rw [Lib.cell_of_heap kX]; rfl); have z2 : W3.cell? ⟨wr.heap.size, 1, none⟩ = some (.slice none 0 0) := (by rw [Lib.cell_of_heap kX]; rfl); have z3 := Lib.frozen_of_heap kX 0; have z4 := Lib.frozen_of_heap kX 1; have z5 := lt_of_block kX; clear q1 q2 q3 q4 H3 kX))
          all_goals
            go_wp2_with fail
            go_meet
            exact ⟨rfl, rfl, _, _, _, _, _, rfl, H4⟩
        case rest =>
          obtain ⟨rfl, rfl, kb, a2, ac2, d2, dc2, rfl, H4⟩ := hcut
          have HW : Hid (Calls Try.prog 12 #[.pointer (some ⟨tb, 0, none⟩), .int .i64 0, .agg #[.slice a2 2 ac2, .slice d2 0 dc2], .agg #[.int .i64 0, .int .i64 0, .int .i64 0, .int .i64 0, .bool false]] wc fun e W' => e = .returned (.bool true) ∧ Hid (LI18 w tb rr rc A (i + 1) W')) := by
            obtain ⟨la', lc', ys, q1, q2, q3, -⟩ := H4.out
            refine hid ((q1.works q2 q3 (by omega)).mono ?_)
            rintro e W' ⟨rfl, h⟩
            obtain ⟨sa', ac', h⟩ := h.out
            have et : A.take (i + 1) = A.take i ++ [d] := by rw [HD.out]; exact List.take_succ_eq_append_getElem (by omega)
            have el : (A.take i).length = i := by simp; omega
            refine ⟨rfl, hid ⟨fun x hx => ?_, R, la', lc', sa', ac', xs ++ ys, ?_⟩⟩
            · rw [et, List.mem_append, List.mem_singleton] at hx
              rcases hx with hx | rfl
              · exact hd x hx
              · exact hbig
            · rw [et, recsA_snoc, el, Nat.zero_add, show entA (A.take i ++ [d]) = entA (A.take i) ++ [⟨0, d⟩] by simp [entA], show 2 * (i + 1) = 2 * i + 2 by omega]
              exact h
          obtain ⟨k0, k1, kl⟩ : wc.cell? ⟨kb, 0, none⟩ = some (.slice a2 2 ac2) ∧ wc.cell? ⟨kb, 1, none⟩ = some (.slice d2 0 dc2) ∧ kb < wc.heap.size := by
            obtain ⟨la', lc', ys, -, -, -, kX⟩ := H4.out
            exact ⟨by rw [Lib.cell_of_heap kX]; rfl, by rw [Lib.cell_of_heap kX]; rfl, lt_of_block kX⟩
          clear HR HF HG HX2 HX H4 n1 n2 n3 c1 c2 qa1 l1 l2 la2 ba hws
          have e0 : A[i]'(by omega) = d := HD.out.symm
          have HC : Hid (∀ W, LI18 w tb rr rc A (i + 1) W → Calls Try.prog 13 #[.pointer (some ⟨tb, 0, none⟩), .int .i64 0] W fun e W' => e = .returned (.bool true) ∧ Hid (LI18 w tb rr rc A (i + 1) W')) := hid fun W h => alone_crash18 h (by omega) (by omega) e2
          have HT : Hid (∀ W, LI18 w tb rr rc A (i + 1) W → _) := hid fun W h => alone_rd18 h (by omega) (by omega)
          rw [e0] at HT
          have HQ' : Hid (∀ W, Below w.heap.size w W → W.cell? ⟨ab, ao + i, none⟩ = some (.string ⟨d.toArray⟩) ∧ ab < W.heap.size) := hid fun W hb => by
            obtain ⟨qa, la1⟩ := HQ.out
            rw [e0] at qa
            exact ⟨below_keep18 hb _ _ qa, Nat.lt_of_lt_of_le la1 hb.size⟩
          have h3 : (¬ i < tn) ∨ (∃ h : i < L.length, L[i]'h = true) ∨ ∃ h : i < L.length, L[i]'h = false := by
            by_cases hn : i < tn
            · cases hx : L[i]'(by omega) with
              | true => exact .inr (.inl ⟨by omega, hx⟩)
              | false => exact .inr (.inr ⟨by omega, hx⟩)
            · exact .inl hn
          have HL1 := hid hL
          clear e0 HQ HD hL hA hd HB
          rcases h3 with hn | ⟨hn, hx⟩ | ⟨hn, hx⟩
          · have dn : decide ((i : Int) < (tn : Int)) = false := by simp; omega
            clear HL1 HC
            go_upto_region 15 with (first
              | (go_at_call 6; refine (HU.out _).mono ?_; rintro e V ⟨rfl, hV⟩; replace hV := hV.symm; subst hV)
              | (go_at_call 12; refine HW.out.mono ?_; clear HW; rintro e W5 ⟨rfl, H5⟩; obtain ⟨R5, c1, c2, l1, l2, hb5, HSt, HLe⟩ := HT.out _ H5.out; clear HT; obtain ⟨qa5, la5⟩ := HQ'.out _ hb5.out)
              | (go_at_call 10; refine HSt.out.mono ?_; clear HSt; rintro e W6 ⟨g, sc6, rfl, q6, lg6, hle6, b6⟩; have c3 := below_keep18 b6 _ _ c1; have c4 := below_keep18 b6 _ _ c2; have qa6 := below_keep18 b6 _ _ qa5; have l3 := Nat.lt_of_lt_of_le l1 b6.size; have l4 := Nat.lt_of_lt_of_le l2 b6.size; have la6 := Nat.lt_of_lt_of_le la5 b6.size; have B6 := hid b6; clear b6 c1 c2 l1 l2 qa5 la5)
              | fail)
            have B7 : Below W5.heap.size W5 (W6.alloc (.cells #[.int .i64 0, .int .i64 0, .int .i64 ((i : Int) + 1), .slice (some ⟨g, 0, none⟩) (i + 1) sc6] 29)) := B6.out.alloc B6.out.size _
            have X7 : (W6.alloc (.cells #[.int .i64 0, .int .i64 0, .int .i64 ((i : Int) + 1), .slice (some ⟨g, 0, none⟩) (i + 1) sc6] 29)).heap[W6.heap.size]? = some (.cells #[.int .i64 0, .int .i64 0, .int .i64 ((i : Int) + 1), .slice (some ⟨g, 0, none⟩) (i + 1) sc6] 29 (0, 0)) := heap_alloc_new _ _
            have b7 : Below W6.heap.size W6 (W6.alloc (.cells #[.int .i64 0, .int .i64 0, .int .i64 ((i : Int) + 1), .slice (some ⟨g, 0, none⟩) (i + 1) sc6] 29)) := (Below.refl _ W6).alloc (Nat.le_refl _) _
            generalize hW7 : W6.alloc (.cells #[.int .i64 0, .int .i64 0, .int .i64 ((i : Int) + 1), .slice (some ⟨g, 0, none⟩) (i + 1) sc6] 29) = W7 at *
            have HLq : Hid (∀ k, Calls Try.prog 14 #[.pointer (some ⟨R5.rb, 0, none⟩)] (W7.drewN k) fun e w' => e = .returned (.bool true) ∧ ∃ m, w' = (W7.drewN k).drewN m) := hid fun k => HLe.out _ (below_drewN B7 k)
            have HFin : Hid (∀ k, LI18 w tb rr rc A (i + 1) (W7.drewN k)) := hid fun k => H5.out.below (below_drewN B7 k)
            have y1 := below_keep18 b7 _ _ c3
            have y2 := below_keep18 b7 _ _ c4
            have y3 := below_keep18 b7 _ _ qa6
            have y4 := below_keep18 b7 _ _ q6
            have y5 : W7.cell? ⟨W6.heap.size, 2, none⟩ = some (.int .i64 ((i : Int) + 1)) := by rw [Lib.cell_of_heap X7]; rfl
            have y6 : W7.cell? ⟨W6.heap.size, 3, none⟩ = some (.slice (some ⟨g, 0, none⟩) (i + 1) sc6) := by rw [Lib.cell_of_heap X7]; rfl
            have z1 := Nat.lt_of_lt_of_le l3 b7.size
            have z2 := Nat.lt_of_lt_of_le l4 b7.size
            have z3 := Nat.lt_of_lt_of_le la6 b7.size
            have z4 := Nat.lt_of_lt_of_le lg6 b7.size
            have z5 := lt_of_block X7
            have g7 : (i : Int) < (i : Int) + 1 := by omega
            clear HLe B7 X7 b7 c3 c4 qa6 q6 l3 l4 la6 lg6 B6 H5 hW7 hb5
            go_quiet ((go_at_call 14; exact Calls.quiet_of (HLq.out _)))
            go_wp2_with fail
            exact ⟨⟨rfl, i + 1, by simp, by omega, by omega, HFin.out nq⟩, by simp only [intOf]; omega⟩
          · have dn : decide ((i : Int) < (tn : Int)) = true := by simp; omega
            have gn : (i : Int) < (tn : Int) := by omega
            obtain ⟨bb, bo, rfl, qb0, lb0⟩ := HL1.out i (by omega)
            rw [hx] at qb0
            have HLb : Hid (∀ W, Below w.heap.size w W → W.cell? ⟨bb, bo + i, none⟩ = some (.bool true) ∧ bb < W.heap.size) := hid fun W hb => ⟨below_keep18 hb _ _ qb0, Nat.lt_of_lt_of_le lb0 hb.size⟩
            clear HL1 hx qb0 lb0
            go_upto_region 15 with (first
              | (go_at_call 6; refine (HU.out _).mono ?_; rintro e V ⟨rfl, hV⟩; replace hV := hV.symm; subst hV)
              | (go_at_call 12; refine HW.out.mono ?_; clear HW; rintro e W4 ⟨rfl, H4⟩; obtain ⟨R4, -, -, -, -, hb4, -, -⟩ := HT.out _ H4.out; obtain ⟨qb4, lb4⟩ := HLb.out _ hb4.out)
              | (go_at_call 10; refine HSt.out.mono ?_; clear HSt; rintro e W6 ⟨g, sc6, rfl, q6, lg6, hle6, b6⟩; have c3 := below_keep18 b6 _ _ c1; have c4 := below_keep18 b6 _ _ c2; have qa6 := below_keep18 b6 _ _ qa5; have l3 := Nat.lt_of_lt_of_le l1 b6.size; have l4 := Nat.lt_of_lt_of_le l2 b6.size; have la6 := Nat.lt_of_lt_of_le la5 b6.size; have B6 := hid b6; clear b6 c1 c2 l1 l2 qa5 la5)
              | (go_at_call 13; refine (HC.out _ H4.out).mono ?_; clear HC; rintro e W5 ⟨rfl, H5⟩; obtain ⟨R5, c1, c2, l1, l2, hb5, HSt, HLe⟩ := HT.out _ H5.out; clear HT; obtain ⟨qa5, la5⟩ := HQ'.out _ hb5.out; clear H4 hb4 qb4 lb4 HLb)
              | fail)
            have B7 : Below W5.heap.size W5 (W6.alloc (.cells #[.int .i64 0, .int .i64 0, .int .i64 ((i : Int) + 1), .slice (some ⟨g, 0, none⟩) (i + 1) sc6] 29)) := B6.out.alloc B6.out.size _
            have X7 : (W6.alloc (.cells #[.int .i64 0, .int .i64 0, .int .i64 ((i : Int) + 1), .slice (some ⟨g, 0, none⟩) (i + 1) sc6] 29)).heap[W6.heap.size]? = some (.cells #[.int .i64 0, .int .i64 0, .int .i64 ((i : Int) + 1), .slice (some ⟨g, 0, none⟩) (i + 1) sc6] 29 (0, 0)) := heap_alloc_new _ _
            have b7 : Below W6.heap.size W6 (W6.alloc (.cells #[.int .i64 0, .int .i64 0, .int .i64 ((i : Int) + 1), .slice (some ⟨g, 0, none⟩) (i + 1) sc6] 29)) := (Below.refl _ W6).alloc (Nat.le_refl _) _
            generalize hW7 : W6.alloc (.cells #[.int .i64 0, .int .i64 0, .int .i64 ((i : Int) + 1), .slice (some ⟨g, 0, none⟩) (i + 1) sc6] 29) = W7 at *
            have HLq : Hid (∀ k, Calls Try.prog 14 #[.pointer (some ⟨R5.rb, 0, none⟩)] (W7.drewN k) fun e w' => e = .returned (.bool true) ∧ ∃ m, w' = (W7.drewN k).drewN m) := hid fun k => HLe.out _ (below_drewN B7 k)
            have HFin : Hid (∀ k, LI18 w tb rr rc A (i + 1) (W7.drewN k)) := hid fun k => H5.out.below (below_drewN B7 k)
            have y1 := below_keep18 b7 _ _ c3
            have y2 := below_keep18 b7 _ _ c4
            have y3 := below_keep18 b7 _ _ qa6
            have y4 := below_keep18 b7 _ _ q6
            have y5 : W7.cell? ⟨W6.heap.size, 2, none⟩ = some (.int .i64 ((i : Int) + 1)) := by rw [Lib.cell_of_heap X7]; rfl
            have y6 : W7.cell? ⟨W6.heap.size, 3, none⟩ = some (.slice (some ⟨g, 0, none⟩) (i + 1) sc6) := by rw [Lib.cell_of_heap X7]; rfl
            have z1 := Nat.lt_of_lt_of_le l3 b7.size
            have z2 := Nat.lt_of_lt_of_le l4 b7.size
            have z3 := Nat.lt_of_lt_of_le la6 b7.size
            have z4 := Nat.lt_of_lt_of_le lg6 b7.size
            have z5 := lt_of_block X7
            have g7 : (i : Int) < (i : Int) + 1 := by omega
            clear HLe B7 X7 b7 c3 c4 qa6 q6 l3 l4 la6 lg6 B6 H5 hW7 hb5
            go_quiet ((go_at_call 14; exact Calls.quiet_of (HLq.out _)))
            go_wp2_with fail
            exact ⟨⟨rfl, i + 1, by simp, by omega, by omega, HFin.out nq⟩, by simp only [intOf]; omega⟩
          · have dn : decide ((i : Int) < (tn : Int)) = true := by simp; omega
            have gn : (i : Int) < (tn : Int) := by omega
            obtain ⟨bb, bo, rfl, qb0, lb0⟩ := HL1.out i (by omega)
            rw [hx] at qb0
            have HLb : Hid (∀ W, Below w.heap.size w W → W.cell? ⟨bb, bo + i, none⟩ = some (.bool false) ∧ bb < W.heap.size) := hid fun W hb => ⟨below_keep18 hb _ _ qb0, Nat.lt_of_lt_of_le lb0 hb.size⟩
            clear HL1 hx qb0 lb0 HC
            go_upto_region 15 with (first
              | (go_at_call 6; refine (HU.out _).mono ?_; rintro e V ⟨rfl, hV⟩; replace hV := hV.symm; subst hV)
              | (go_at_call 12; refine HW.out.mono ?_; clear HW; rintro e W5 ⟨rfl, H5⟩; obtain ⟨R5, c1, c2, l1, l2, hb5, HSt, HLe⟩ := HT.out _ H5.out; clear HT; obtain ⟨qa5, la5⟩ := HQ'.out _ hb5.out; obtain ⟨qb5, lb5⟩ := HLb.out _ hb5.out; clear HLb)
              | (go_at_call 10; refine HSt.out.mono ?_; clear HSt; rintro e W6 ⟨g, sc6, rfl, q6, lg6, hle6, b6⟩; have c3 := below_keep18 b6 _ _ c1; have c4 := below_keep18 b6 _ _ c2; have qa6 := below_keep18 b6 _ _ qa5; have l3 := Nat.lt_of_lt_of_le l1 b6.size; have l4 := Nat.lt_of_lt_of_le l2 b6.size; have la6 := Nat.lt_of_lt_of_le la5 b6.size; have B6 := hid b6; clear b6 c1 c2 l1 l2 qa5 la5)
              | fail)
            have B7 : Below W5.heap.size W5 (W6.alloc (.cells #[.int .i64 0, .int .i64 0, .int .i64 ((i : Int) + 1), .slice (some ⟨g, 0, none⟩) (i + 1) sc6] 29)) := B6.out.alloc B6.out.size _
            have X7 : (W6.alloc (.cells #[.int .i64 0, .int .i64 0, .int .i64 ((i : Int) + 1), .slice (some ⟨g, 0, none⟩) (i + 1) sc6] 29)).heap[W6.heap.size]? = some (.cells #[.int .i64 0, .int .i64 0, .int .i64 ((i : Int) + 1), .slice (some ⟨g, 0, none⟩) (i + 1) sc6] 29 (0, 0)) := heap_alloc_new _ _
            have b7 : Below W6.heap.size W6 (W6.alloc (.cells #[.int .i64 0, .int .i64 0, .int .i64 ((i : Int) + 1), .slice (some ⟨g, 0, none⟩) (i + 1) sc6] 29)) := (Below.refl _ W6).alloc (Nat.le_refl _) _
            generalize hW7 : W6.alloc (.cells #[.int .i64 0, .int .i64 0, .int .i64 ((i : Int) + 1), .slice (some ⟨g, 0, none⟩) (i + 1) sc6] 29) = W7 at *
            have HLq : Hid (∀ k, Calls Try.prog 14 #[.pointer (some ⟨R5.rb, 0, none⟩)] (W7.drewN k) fun e w' => e = .returned (.bool true) ∧ ∃ m, w' = (W7.drewN k).drewN m) := hid fun k => HLe.out _ (below_drewN B7 k)
            have HFin : Hid (∀ k, LI18 w tb rr rc A (i + 1) (W7.drewN k)) := hid fun k => H5.out.below (below_drewN B7 k)
            have y1 := below_keep18 b7 _ _ c3
            have y2 := below_keep18 b7 _ _ c4
            have y3 := below_keep18 b7 _ _ qa6
            have y4 := below_keep18 b7 _ _ q6
            have y5 : W7.cell? ⟨W6.heap.size, 2, none⟩ = some (.int .i64 ((i : Int) + 1)) := by rw [Lib.cell_of_heap X7]; rfl
            have y6 : W7.cell? ⟨W6.heap.size, 3, none⟩ = some (.slice (some ⟨g, 0, none⟩) (i + 1) sc6) := by rw [Lib.cell_of_heap X7]; rfl
            have z1 := Nat.lt_of_lt_of_le l3 b7.size
            have z2 := Nat.lt_of_lt_of_le l4 b7.size
            have z3 := Nat.lt_of_lt_of_le la6 b7.size
            have z4 := Nat.lt_of_lt_of_le lg6 b7.size
            have z5 := lt_of_block X7
            have g7 : (i : Int) < (i : Int) + 1 := by omega
            clear HLe B7 X7 b7 c3 c4 qa6 q6 l3 l4 la6 lg6 B6 H5 hW7 hb5
            go_quiet ((go_at_call 14; exact Calls.quiet_of (HLq.out _)))
            go_wp2_with fail
            exact ⟨⟨rfl, i + 1, by simp, by omega, by omega, HFin.out nq⟩, by simp only [intOf]; omega⟩
      · have g4 : (16384 : Int) < (d.length : Int) := by omega
        have HB := hid hbl
        clear hAL hbl qa la1
        go_wp2_with fail
        go_ret
        exact ⟨rfl, HB.out⟩
    · have HB : Hid (Below w.heap.size w wr) := by
        obtain ⟨-, R, la, lc, sa, sc, xs, hAL⟩ := HX.out
        exact hid hAL.b.b
      clear HX
      by_cases n1 : i < an
      · have n2 : ¬ i < 60 := by omega
        have g1 : decide ((i : Int) < (an : Int)) = true := by simp; omega
        have g2 : decide ((i : Int) < 60) = false := by simp; omega
        go_wp2_with fail
        go_ret
        exact ⟨rfl, HB.out⟩
      · have g1 : decide ((i : Int) < (an : Int)) = false := by simp; omega
        go_wp2_with fail
        go_ret
        exact ⟨rfl, HB.out⟩
end Go.Proofs.Ytaonchdpnllhpaa
