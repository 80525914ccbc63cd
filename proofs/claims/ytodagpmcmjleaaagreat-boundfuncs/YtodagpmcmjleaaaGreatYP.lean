/- Layer 9: the document's Part. Layer 9: the document's Part, of any instructions. -/
import Derived.Test.YtodagpmcmjleaaaGreatYO
import Derived.Test.YtodagpmcmjleaaaGreatSL
import Derived.Test.YtodagpmcmjleaaaGreatSC
import Derived.Deep.RegionLaw
namespace Go.Proofs.YtodagpmcmjleaaaGreat
open Go.RowKit
/-- A level, and levels (the innermost first), as they lie in a row. -/
def cellsD (b : DL) : List Value := [.int .i64 b.op, .int .i64 b.t, .int .i64 b.s, .int .i64 b.th, .bool b.o]
def rowD (S : List DL) : List Value := S.reverse.flatMap cellsD
theorem rowD_cons (b : DL) (r : List DL) : rowD (b :: r) = rowD r ++ cellsD b := by simp [rowD]
theorem rowD_len (S : List DL) : (rowD S).length = S.length * 5 := by
  induction S with
  | nil => rfl
  | cons b r ih => rw [rowD_cons, List.length_append, ih, List.length_cons]; simp [cellsD]; omega
theorem rowD_one (S : List DL) : ∀ u ∈ rowD S, u.oneCell' = true := by
  intro u hu
  obtain ⟨b, _, hb⟩ := List.mem_flatMap.1 hu
  simp [cellsD] at hb
  rcases hb with rfl | rfl | rfl | rfl | rfl <;> rfl
theorem elemN_lvl : ElemN Tryz.prog 65 64 5 40 := by
  refine ⟨Tryz.underlying65, ?_, by decide⟩
  obtain ⟨i0, hi, hz0, hz1, hz2⟩ := info_parts (show (Tryz.prog.info? 64).map (fun i => (i.zero, i.size, i.bytes)) = some (some (.agg #[.int .i64 0, .int .i64 0, .int .i64 0, .int .i64 0, .bool false]), 5, 40) by kernel_rfl)
  exact ⟨i0, _, hi, hz0, hz1, hz2, rfl⟩
/-- The levels in the row at g. -/
def RowL (B : Nat) (W : World) (g cap : Nat) (S : List DL) : Prop := W.ownsRow B 64 5 (.slice (some ⟨g, 0, none⟩) S.length cap) S.length (rowD S)
theorem RowL.top {B : Nat} {W : World} {g cap : Nat} {b : DL} {r : List DL} (h : RowL B W g cap (b :: r)) :
    W.cell? ⟨g, r.length * 5, none⟩ = some (.int .i64 b.op) ∧ W.cell? ⟨g, r.length * 5 + 1, none⟩ = some (.int .i64 b.t) ∧ W.cell? ⟨g, r.length * 5 + 2, none⟩ = some (.int .i64 b.s) ∧ W.cell? ⟨g, r.length * 5 + 3, none⟩ = some (.int .i64 b.th) ∧ W.cell? ⟨g, r.length * 5 + 4, none⟩ = some (.bool b.o) := by
  obtain ⟨_, _, e, _, _, h2⟩ := row_form h
  rcases h2 with ⟨h2, _⟩ | ⟨g', h2, _, _, hc⟩
  · cases e; cases h2
  · cases e
    cases h2
    rw [rowD_cons] at hc
    have hl := rowD_len r
    have key : ∀ k u, (cellsD b)[k]? = some u → W.cell? ⟨g, r.length * 5 + k, none⟩ = some u := fun k u hu => hc _ _ (by rw [List.getElem?_append_right (by omega), hl, Nat.add_sub_cancel_left]; exact hu)
    exact ⟨key 0 _ rfl, key 1 _ rfl, key 2 _ rfl, key 3 _ rfl, key 4 _ rfl⟩
theorem RowL.fz {B : Nat} {W : World} {g cap : Nat} {S : List DL} (h : RowL B W g cap S) (k : Nat) : W.frozen? ⟨g, k, none⟩ = false := World.ownsRow.frozenAt h k
theorem RowL.keep {B : Nat} {W W' : World} {g cap : Nat} {S : List DL} (h : RowL B W g cap S) (hb : Below W.heap.size W W') : RowL B W' g cap S := row_below2 h hb
theorem RowL.ge {B : Nat} {W : World} {g cap : Nat} {S : List DL} (h : RowL B W g cap S) : B ≤ g ∧ g < W.heap.size := World.ownsRow.lt h g rfl
theorem set_top (r : List DL) (b b' : DL) (k : Nat) (u : Value) (h : (cellsD b).set k u = cellsD b') : (rowD (b :: r)).set (r.length * 5 + k) u = rowD (b' :: r) := by
  rw [rowD_cons, rowD_cons, List.set_append_right _ _ (by rw [rowD_len]; omega), rowD_len, Nat.add_sub_cancel_left, h]
theorem RowL.set {B : Nat} {W : World} {g cap : Nat} {b b' : DL} {r : List DL} (h : RowL B W g cap (b :: r)) (k : Nat) (u : Value) (e : (cellsD b).set k u = cellsD b') : RowL B (W.setCell ⟨g, r.length * 5 + k, none⟩ u) g cap (b' :: r) := by
  have := (World.ownsRow.stored h (r.length * 5 + k) u).1
  rw [set_top r b b' k u e] at this
  exact this
theorem RowL.pop {B : Nat} {W : World} {g cap : Nat} {b p : DL} {r : List DL} (h : RowL B W g cap (b :: p :: r)) : RowL B W g cap (p :: r) := by
  have hl := h.1
  rcases h.2 with ⟨e, _⟩ | ⟨g', cap', cur, e, hg, hh, h1, h2, h3, h4⟩
  · cases e
  · cases e
    refine ⟨by rw [rowD_len], .inr ⟨g, cap, cur, rfl, hg, hh, by simp only [List.length_cons] at *; omega, h2, h3, ?_⟩⟩
    have e2 : rowD (p :: r) = (rowD (b :: p :: r)).take ((p :: r).length * 5) := by
      rw [rowD_cons b, List.take_left' (rowD_len _)]
    rw [e2, ← h4, List.take_take, Nat.min_eq_left (by simp only [List.length_cons]; omega)]
theorem ps_set {w W : World} {g cap k : Nat} {b b' : DL} {r : List DL} (hR : RowL w.heap.size W g cap (b :: r) ∧ Below w.heap.size w W) (hk : k = r.length) (j : Nat) (u : Value) (e : (cellsD b).set j u = cellsD b') : RowL w.heap.size (W.setCell ⟨g, k * 5 + j, none⟩ u) g cap (b' :: r) ∧ Below w.heap.size w (W.setCell ⟨g, k * 5 + j, none⟩ u) := by
  subst hk
  exact ⟨hR.1.set j u e, hR.2.setCell hR.1.ge.1 u⟩
def HB9 (b : DL) : Prop := b.s ≤ 1048577 ∧ b.th ≤ 1048577
theorem atD_bounds {cal : List Int} {cs : List (Int × Int)} {i : Nat} {b : DL} {r : List DL} (h : AtD cal cs i (b :: r)) : HB9 b := by
  obtain ⟨_, _, _, hB, _, _⟩ := str_cons h.1
  exact ⟨hB.2.1, hB.2.2⟩
/-- What a level's cells are. -/
def TopL (W : World) (g k : Nat) (b : DL) : Prop := (W.cell? ⟨g, k * 5, none⟩ = some (.int .i64 b.op) ∧ W.cell? ⟨g, k * 5 + 1, none⟩ = some (.int .i64 b.t) ∧ W.cell? ⟨g, k * 5 + 2, none⟩ = some (.int .i64 b.s) ∧ W.cell? ⟨g, k * 5 + 3, none⟩ = some (.int .i64 b.th) ∧ W.cell? ⟨g, k * 5 + 4, none⟩ = some (.bool b.o)) ∧ W.frozen? ⟨g, k * 5 + 2, none⟩ = false ∧ W.frozen? ⟨g, k * 5 + 3, none⟩ = false ∧ W.frozen? ⟨g, k * 5 + 4, none⟩ = false
theorem RowL.topL {B : Nat} {W : World} {g cap k : Nat} {b : DL} {r : List DL} (h : RowL B W g cap (b :: r)) (hk : k = r.length) : TopL W g k b := by
  subst hk
  exact ⟨h.top, h.fz _, h.fz _, h.fz _⟩
theorem ps_drew {w W : World} {g cap : Nat} {S : List DL} (h : RowL w.heap.size W g cap S ∧ Below w.heap.size w W) : RowL w.heap.size W.drew g cap S ∧ Below w.heap.size w W.drew := ⟨World.ownsRow.drew h.1, h.2.drew⟩
theorem ps_app {w W W2 : World} {g cap k : Nat} {b d : DL} {r : List DL} {o : Obj} {v v' : Value} {xs : List Value} (HK : k = r.length) (h : RowL w.heap.size W g cap (b :: r) ∧ Below w.heap.size w W) (hr : (W.alloc o).ownsRow w.heap.size 64 5 v (k + 1) xs) (hr2 : W2.ownsRow w.heap.size 64 5 v' (k + 1 + 1) (rowD (b :: r) ++ cellsD d)) (hs : Step (W.alloc o) v W2 v') :
    ∃ g' cap', v' = .slice (some ⟨g', 0, none⟩) (k + 1 + 1) cap' ∧ Hid (RowL w.heap.size W2 g' cap' (d :: b :: r) ∧ Below w.heap.size w W2) := by
  obtain ⟨a', cap', e, _, _, hc⟩ := row_form hr2
  subst e
  rcases hc with ⟨_, h0, _⟩ | ⟨g', e, _⟩
  · omega
  · subst e
    refine ⟨g', cap', rfl, hid9 ⟨?_, (h.2.alloc h.2.size o).trans (hs.below (by have := h.2.size; simp; omega) fun q hq => (hr.lt q hq).1)⟩⟩
    unfold RowL
    rw [show (d :: b :: r).length = k + 1 + 1 by rw [HK]; rfl, rowD_cons d]
    exact hr2
/-- Loops turn no less than zero times. -/
def NN (S : List DL) : Prop := ∀ d ∈ S, d.op = 51 → 0 ≤ d.t
theorem nn_step {cal : List Int} {x : Int × Int} {S : List DL} (h : NN S) (hx : x.1 = 51 → 0 ≤ x.2) : NN (dstep cal x S) := by
  cases S with
  | nil => exact h
  | cons b r =>
    simp only [dstep]
    have hb := h b (by simp)
    have hr : ∀ d ∈ r, d.op = 51 → 0 ≤ d.t := fun d hd => h d (by simp [hd])
    split
    · intro d hd
      rcases List.mem_cons.1 hd with e | hd
      · subst e; exact hx
      · exact h d hd
    · split
      · intro d hd
        rcases List.mem_cons.1 hd with e | hd
        · subst e; exact hb
        · exact hr d hd
      · split
        · split
          · rename_i p q
            intro d hd
            rcases List.mem_cons.1 hd with e | hd
            · subst e; exact hr p (by simp)
            · exact hr d (by simp [hd])
          · exact h
        · split
          · intro d hd
            rcases List.mem_cons.1 hd with e | hd
            · subst e; exact hb
            · exact hr d hd
          · intro d hd
            rcases List.mem_cons.1 hd with e | hd
            · subst e; exact hb
            · exact hr d hd
theorem atD_bounds2 {cal : List Int} {cs : List (Int × Int)} {i : Nat} {b p : DL} {q : List DL} (h : AtD cal cs i (b :: p :: q)) : p.s ≤ 1048577 := by
  obtain ⟨_, _, _, _, _, hr⟩ := str_cons h.1
  obtain ⟨_, _, _, hB, _, _⟩ := str_cons (hr (by simp)).2
  exact hB.2.1
/-- What holds at the loop: nothing that was there is changed; the levels in their row. -/
def PS (w : World) (cal : List Int) (cs : List (Int × Int)) (i : Nat) (S : List DL) (g cap : Nat) (W : World) : Prop := (AtD cal cs i S ∧ NN S) ∧ RowL w.heap.size W g cap S ∧ Below w.heap.size w W
set_option maxRecDepth 100000 in
set_option maxHeartbeats 2000000 in
theorem rpart_good (cs : List (Int × Int)) (cal : List Int) (ca la : Option Addr) (cc lc n l : Nat) (hn : cs.length = n) (hl : cal.length = l) (bn : n ≤ 1000000) (bl : l ≤ 1000000000000000) (w : World) (hi : IsAt w.cell? ca cs) (hz : NsAt w.cell? la cal) (hg : goodS cs = true) (hr : rightB cs cal = true) :
    Calls Tryz.prog 17 #[.slice ca n cc, .slice la l lc] w fun e w' => e = .returned (.tuple #[.int .i64 (gasS cal cs : Nat), .int .i64 0]) ∧ Below w.heap.size w w' := by
  have HM : Hid (Calls Tryz.prog 16 #[.slice ca n cc] w fun e w' => ∃ g : Nat, e = .returned (.tuple #[.slice (some ⟨g, 0, none⟩) n n, .int .i64 0]) ∧ Hid (Below w.heap.size w w')) := hid9 ((rmatch_any cs ca cc n hn bn w hi).mono fun e w' ⟨h1, h2⟩ => by
    rw [if_pos hg, hn] at h1
    obtain ⟨g, _, h1, _⟩ := h1
    exact ⟨g, h1, hid9 h2⟩)
  have HR : Hid (∀ W, Below w.heap.size w W → Calls Tryz.prog 28 #[.slice ca n cc, .slice la l lc] W fun e w' => e = .returned (.bool true) ∧ w' = W) := hid9 fun W hb => by
    have := rfine_any cs cal ca la cc lc n l hn hl (by omega) bl W (hi.keep (below_keep hb)) (hz.keep (below_keep hb))
    rw [hr] at this
    exact this
  have HI : Hid (∀ W, Below w.heap.size w W → IsAt W.cell? ca cs ∧ NsAt W.cell? la cal) := hid9 fun W hb => ⟨hi.keep (below_keep hb), hz.keep (below_keep hb)⟩
  have HN := hid9 hn
  have HG := hid9 hg
  have HRi := hid9 (right_of hr)
  clear hi hz hn hg hr
  go_enter Tryz.func17, Tryz.ntmps17
  go_wp2_with (first
    | (go_at_call 16; refine HM.out.mono ?_; clear HM; rintro e w1 ⟨g, rfl, HW⟩)
    | (go_at_call 28; refine (HR.out _ HW.out).mono ?_; clear HR; rintro e w2 ⟨rfl, w2e⟩; rw [w2e]; clear w2e)
    | fail)
  have HP0 : Hid (PS w cal cs 0 [dbase] w1.heap.size 1 (w1.alloc (.cells #[.int .i64 0, .int .i64 0, .int .i64 0, .int .i64 0, .bool false] 64))) := hid9 ⟨⟨atD_start cal cs, fun d hd h => by simp [dbase] at hd; subst hd; exact Int.le_refl _⟩, World.ownsRow_lit w1 #[.int .i64 0, .int .i64 0, .int .i64 0, .int .i64 0, .bool false] 1 HW.out.size (by unfold maxLen; omega) rfl, HW.out.alloc HW.out.size _⟩
  clear HW
  go_loopw [8, 9] (fun lv iv wr => ∃ (i g cap : Nat) (S : List DL), iv = .int .i64 i ∧ i ≤ n ∧ lv = .slice (some ⟨g, 0, none⟩) S.length cap ∧ Hid (PS w cal cs i S g cap wr)) (fun _ iv _ => n - (intOf iv).toNat)
  case atStart => exact ⟨0, w1.heap.size, 1, [dbase], rfl, Nat.zero_le _, rfl, HP0⟩
  case round =>
    obtain ⟨i, gl, cap, S, rfl, hin, rfl, HP⟩ := hrel
    clear HP0
    by_cases hlt : i < n
    · have hil : i < cs.length := by rw [HN.out]; exact hlt
      obtain ⟨b, r, hS⟩ := atD_pos HP.out.1.1
      subst hS
      have HS2 := hid9 (And.intro (atD_step HG.out HP.out.1.1 hil) (nn_step (cal := cal) HP.out.1.2 (x := cs[i]) (fun h => (HRi.out.1 _ (List.getElem_mem hil)).2 h)))
      have HBb := hid9 (atD_bounds HP.out.1.1)
      have hcap : r.length + 1 ≤ cap := by obtain ⟨_, _, e, h, _⟩ := row_form HP.out.2.1; cases e; simpa using h
      have HPp : Hid (∀ p q, r = p :: q → p.s ≤ 1048577) := hid9 fun p q e => by have := HP.out.1.1; rw [e] at this; exact atD_bounds2 this
      have HTt : Hid (b.op = 51 → 0 ≤ b.t) := hid9 (HP.out.1.2 b (by simp))
      have hr2 : r.length ≤ 1000000 := by have := atD_len HP.out.1.1 (by omega); simp at this; omega
      have HE : Hid (cs[i].1 = 50 → ∃ p q, r = p :: q) := hid9 fun e => by obtain ⟨_, p, q, h⟩ := atD_end HG.out HP.out.1.1 hil e; cases h; exact ⟨p, q, rfl⟩
      have HX : Hid ((cs[i].1 = 53 → 0 ≤ cs[i].2 ∧ cs[i].2 < cal.length) ∧ (∀ z ∈ cal, 0 ≤ z)) := hid9 ⟨fun h => (HRi.out.1 _ (List.getElem_mem hil)).1 h, HRi.out.2⟩
      obtain ⟨k, hk⟩ : ∃ k, k = r.length := ⟨_, rfl⟩
      have HC : Hid (Calls Tryz.prog 29 #[.int .i64 cs[i].1] wr fun e W => e = .returned (.int .i64 (costN cs[i].1 : Nat)) ∧ (∀ cb co, ca = some ⟨cb, co, none⟩ → W.cell? ⟨cb, co + i * 2, none⟩ = some (.int .i64 cs[i].1) ∧ W.cell? ⟨cb, co + i * 2 + 1, none⟩ = some (.int .i64 cs[i].2)) ∧ TopL W gl k b ∧ Hid (RowL w.heap.size W gl cap (b :: r) ∧ Below w.heap.size w W)) := hid9 ((rcost9_any cs[i].1 wr).mono fun e W ⟨h1, h2⟩ => by
        rw [(costT_pos _).1] at h1
        have hB := HP.out.2.2.trans (h2.mono HP.out.2.2.size)
        have hR := HP.out.2.1.keep h2
        refine ⟨h1, fun cb co e => ?_, hR.topL hk, hid9 ⟨hR, hB⟩⟩
        rcases (HI.out W hB).1 with h | ⟨cb', co', e', h⟩
        · rw [h] at hil; cases hil
        · rw [e] at e'; cases e'; exact h i hil)
      obtain ⟨cb, co, e1, c0⟩ : ∃ cb co, ca = some ⟨cb, co, none⟩ ∧ wr.cell? ⟨cb, co + i * 2, none⟩ = some (.int .i64 cs[i].1) := by
        rcases (HI.out wr HP.out.2.2).1 with h | ⟨b, o, e, h⟩
        · rw [h] at hil; cases hil
        · exact ⟨b, o, e, (h i hil).1⟩
      subst e1
      rw [show (b :: r).length = k + 1 by rw [hk]; rfl]
      have HK := hid9 hk
      rw [← hk] at hr2 hcap
      have hcap0 : ¬ cap = 0 := by omega
      clear hk
      generalize cs[i] = x at *
      obtain ⟨o, a⟩ := x
      simp only at *
      have hk30 := (costT_pos o).2
      clear HP HRi
      have HSm : Hid (HB9 b) := hid9 HBb.out
      have hbs := HSm.out.1
      have hbt := HSm.out.2
      by_cases o2 : o = 49
      · subst o2
        have HD : Hid (dstep cal (49, a) (b :: r) = { b with th := cut (b.s + costN 49), s := 0, o := true } :: r) := hid9 (by simp [dstep])
        rw [HD.out] at HS2
        have CU : Hid (∀ z W, z = ((b.s + costN 49 : Nat) : Int) → Calls Tryz.prog 30 #[.int .i64 z] W fun e w' => e = .returned (.int .i64 (cut (b.s + costN 49) : Nat)) ∧ w' = W) := hid9 fun z W hz => rcut_any z (b.s + costN 49) hz W
        go_wp2_with (first
        | (go_at_call 29; refine HC.out.mono ?_; clear HC; rintro e w3 ⟨rfl, hcc, ⟨⟨t0, t1, t2, t3, t4⟩, f2, f3, f4⟩, HQ⟩; obtain ⟨d0, d1⟩ := hcc _ _ rfl; clear hcc)
        | (go_at_call 30; refine (CU.out _ _ (by omega)).mono ?_; clear CU; rintro e w9 ⟨rfl, w9e⟩; rw [w9e]; clear w9e)
        | fail)
        have h1 := ps_set (b' := { b with th := cut (b.s + costN 49) }) HQ.out HK.out 3 _ rfl
        have h2 := ps_set (b' := { b with th := cut (b.s + costN 49), s := 0 }) h1 HK.out 2 (.int .i64 0) rfl
        have h3 := ps_set (b' := { b with th := cut (b.s + costN 49), s := 0, o := true }) h2 HK.out 4 (.bool true) rfl
        exact ⟨⟨i + 1, gl, cap, _ :: r, by go_num, by omega, by rw [List.length_cons, ← HK.out], hid9 ⟨HS2.out, h3.1, h3.2⟩⟩, by simp [intOf]; omega⟩
      by_cases o3 : o = 50
      · subst o3
        obtain ⟨p, q, rfl⟩ := HE.out rfl
        have HD : Hid (dstep cal (50, a) (b :: p :: q) = { p with s := cut (p.s + dclosed b) } :: q) := hid9 (by simp [dstep])
        rw [HD.out] at HS2
        obtain ⟨k', rfl⟩ : ∃ k', k = k' + 1 := ⟨q.length, by rw [HK.out]; rfl⟩
        have HK2 : Hid (k' = q.length) := hid9 (by have := HK.out; simp at this; exact this)
        have hps := HPp.out p q rfl
        have hdc := dclosed_le b
        unfold TM at hdc
        have CL : Hid (∀ W, RowL w.heap.size W gl cap (b :: p :: q) ∧ Below w.heap.size w W → Calls Tryz.prog 31 #[.agg #[.int .i64 b.op, .int .i64 b.t, .int .i64 b.s, .int .i64 b.th, .bool b.o]] W fun e W1 => e = .returned (.int .i64 (dclosed b : Nat)) ∧ TopL W1 gl k' p ∧ Hid (RowL w.heap.size W1 gl cap (p :: q) ∧ Below w.heap.size w W1)) := hid9 fun W hW => (rclosed_any b (by unfold TM; omega) (by unfold TM; omega) HTt.out W).mono fun e W1 ⟨h1, h2⟩ => by
          have hR := (hW.1.keep h2).pop
          exact ⟨h1, hR.topL HK2.out, hid9 ⟨hR, hW.2.trans (h2.mono hW.2.size)⟩⟩
        have CU : Hid (∀ z W, z = ((p.s + dclosed b : Nat) : Int) → Calls Tryz.prog 30 #[.int .i64 z] W fun e w' => e = .returned (.int .i64 (cut (p.s + dclosed b) : Nat)) ∧ w' = W) := hid9 fun z W hz => rcut_any z (p.s + dclosed b) hz W
        generalize dclosed b = dc at *
        go_wp2_with (first
        | (go_at_call 29; refine HC.out.mono ?_; clear HC; rintro e w3 ⟨rfl, hcc, ⟨⟨t0, t1, t2, t3, t4⟩, f2, f3, f4⟩, HQ⟩; obtain ⟨d0, d1⟩ := hcc _ _ rfl; clear hcc)
        | (go_at_call 31; refine (CL.out _ HQ.out).mono ?_; clear CL HQ; rintro e w4 ⟨rfl, ⟨⟨v0, v1, v2, v3, v4⟩, j2, j3, j4⟩, HQ⟩)
        | (go_at_call 30; refine (CU.out _ _ (by omega)).mono ?_; clear CU; rintro e w9 ⟨rfl, w9e⟩; rw [w9e]; clear w9e)
        | fail)
        have h1 := ps_set (b' := { p with s := cut (p.s + dc) }) HQ.out HK2.out 2 _ rfl
        exact ⟨⟨i + 1, gl, cap, _ :: q, by go_num, by omega, by rw [List.length_cons, ← HK2.out], hid9 ⟨HS2.out, h1.1, h1.2⟩⟩, by simp [intOf]; omega⟩
      by_cases o4 : o = 53
      · subst o4
        obtain ⟨ha0, ha1⟩ := HX.out.1 rfl
        obtain ⟨A, rfl⟩ : ∃ A : Nat, a = A := ⟨a.toNat, by omega⟩
        have hAl : A < cal.length := by omega
        obtain ⟨v, hv⟩ : ∃ v : Nat, cal[A] = (v : Int) := ⟨cal[A].toNat, by have := HX.out.2 _ (List.getElem_mem hAl); omega⟩
        have HD : Hid (dstep cal (53, (A : Int)) (b :: r) = { b with s := cut (b.s + costN 53 + cut v) } :: r) := hid9 (by simp [dstep, hAl, hv])
        rw [HD.out] at HS2
        have HLc : Hid (∀ W, Below w.heap.size w W → ∃ lb lo, la = some ⟨lb, lo, none⟩ ∧ W.cell? ⟨lb, lo + A, none⟩ = some (.int .i64 (v : Int))) := hid9 fun W hW => by
          rcases (HI.out W hW).2 with h | ⟨lb, lo, e, h⟩
          · rw [h] at hAl; cases hAl
          · exact ⟨lb, lo, e, by have := h A hAl; rw [hv] at this; exact this⟩
        obtain ⟨lb, lo, ela, _⟩ := HLc.out w (Below.refl _ _)
        subst ela
        have hcv := cut_le v
        unfold TM at hcv
        have C1 : Hid (∀ z W, z = (v : Int) → Calls Tryz.prog 30 #[.int .i64 z] W fun e w' => e = .returned (.int .i64 (cut v : Nat)) ∧ w' = W) := hid9 fun z W hz => rcut_any z v hz W
        have C2 : Hid (∀ z W, z = ((b.s + costN 53 + cut v : Nat) : Int) → Calls Tryz.prog 30 #[.int .i64 z] W fun e w' => e = .returned (.int .i64 (cut (b.s + costN 53 + cut v) : Nat)) ∧ w' = W) := hid9 fun z W hz => rcut_any z (b.s + costN 53 + cut v) hz W
        have hAl2 : A < l := by omega
        clear hv
        go_wp2_with (first
        | (go_at_call 29; refine HC.out.mono ?_; clear HC; rintro e w3 ⟨rfl, hcc, ⟨⟨t0, t1, t2, t3, t4⟩, f2, f3, f4⟩, HQ⟩; obtain ⟨d0, d1⟩ := hcc _ _ rfl; clear hcc; obtain ⟨_, _, el, d2⟩ := HLc.out _ HQ.out.2; cases el; clear HLc)
        | (go_at_call 30; first | (refine (C1.out _ _ (by omega)).mono ?_; clear C1; rintro e w9 ⟨rfl, w9e⟩; rw [w9e]; clear w9e) | (refine (C2.out _ _ (by omega)).mono ?_; clear C2; rintro e w9 ⟨rfl, w9e⟩; rw [w9e]; clear w9e))
        | fail)
        have e2 : IntKind.i64.wrap (IntKind.i64.wrap ((b.s : Int) + (costN 53 : Int)) + (cut v : Int)) = ((b.s + costN 53 + cut v : Nat) : Int) := by
          rw [show IntKind.i64.wrap ((b.s : Int) + (costN 53 : Int)) = (b.s : Int) + (costN 53 : Int) by rw [IntKind.wrap_i64]; omega, IntKind.wrap_i64]; omega
        go_region_with (first
          | (go_at_call 30; first | (refine (C1.out _ _ (by omega)).mono ?_; clear C1; rintro e w9 ⟨rfl, w9e⟩; rw [w9e]; clear w9e) | (refine (C2.out _ _ e2).mono ?_; clear C2; rintro e w9 ⟨rfl, w9e⟩; rw [w9e]; clear w9e) | (refine (C2.out _ _ (by omega)).mono ?_; clear C2; rintro e w9 ⟨rfl, w9e⟩; rw [w9e]; clear w9e)))
        all_goals
          go_wp2_with fail
          have h1 := ps_set (b' := { b with s := cut (b.s + costN 53 + cut v) }) (ps_drew HQ.out) HK.out 2 _ rfl
          exact ⟨⟨i + 1, gl, cap, _ :: r, by go_num, by omega, by rw [List.length_cons, ← HK.out], hid9 ⟨HS2.out, h1.1, h1.2⟩⟩, by simp [intOf]; omega⟩
      by_cases o1 : o = 48 ∨ o = 51
      · have HD : Hid (dstep cal (o, a) (b :: r) = ⟨o, a, 0, 0, false⟩ :: b :: r) := hid9 (by simp only [dstep]; rw [if_pos o1])
        rw [HD.out] at HS2
        have n3 : (o == 49) = false := by simp; omega
        have n1 : ((o == 48) || (o == 51)) = true := by rcases o1 with h | h <;> simp [h]
        rcases o1 with o1 | o1
        · subst o1
          go_wp2_with (first
            | (go_at_call 29; refine HC.out.mono ?_; clear HC; rintro e w3 ⟨rfl, hcc, ⟨⟨t0, t1, t2, t3, t4⟩, f2, f3, f4⟩, HQ⟩; obtain ⟨d0, d1⟩ := hcc _ _ rfl; clear hcc)
            | fail)
          have e0 : w3.drew.cell? ⟨cb, co + i * 2, none⟩ = some (.int .i64 48) := d0
          have e1 : w3.drew.cell? ⟨cb, co + i * 2 + 1, none⟩ = some (.int .i64 a) := d1
          have r3 : w3.drew.ownsRow w.heap.size 64 5 (.slice (some ⟨gl, 0, none⟩) (k + 1) cap) (k + 1) (rowD (b :: r)) := by
            have := World.ownsRow.drew HQ.out.1
            rw [show (b :: r).length = k + 1 by rw [HK.out]; rfl] at this
            exact this
          have hs3 := HQ.out.2.size
          go_region_law (first
            | (refine step_appN _ (by rfl) (.tmp 61) (.tmp 73) 65 (by rfl) elemN_lvl w.heap.size _ (k + 1) (rowD (b :: r)) (by rfl) (World.ownsRow.alloc r3 _) _ (by rfl) 1 (cellsD ⟨48, a, 0, 0, false⟩) (.inr ⟨⟨w3.heap.size, 0, none⟩, 1, rfl, cells_new9 w3.drew (cellsD ⟨48, a, 0, 0, false⟩) 64 _ rfl⟩) rfl (by simp [cellsD, Value.oneCell']) (by unfold maxLen; omega) (by omega) (by simp; omega) ?_; intro v' w12 hr12 hs12; obtain ⟨y12, t12, ev, HZ⟩ := ps_app (HK := HK.out) (ps_drew HQ.out) (World.ownsRow.alloc r3 _) hr12 hs12; subst ev; clear hr12 hs12))
          all_goals
            go_wp2_with fail
            exact ⟨⟨i + 1, y12, t12, _ :: b :: r, by go_num, by omega, by rw [List.length_cons, List.length_cons, ← HK.out], hid9 ⟨HS2.out, HZ.out.1, HZ.out.2⟩⟩, by simp [intOf]; omega⟩
        · subst o1
          go_wp2_with (first
            | (go_at_call 29; refine HC.out.mono ?_; clear HC; rintro e w3 ⟨rfl, hcc, ⟨⟨t0, t1, t2, t3, t4⟩, f2, f3, f4⟩, HQ⟩; obtain ⟨d0, d1⟩ := hcc _ _ rfl; clear hcc)
            | fail)
          have e0 : w3.drew.cell? ⟨cb, co + i * 2, none⟩ = some (.int .i64 51) := d0
          have e1 : w3.drew.cell? ⟨cb, co + i * 2 + 1, none⟩ = some (.int .i64 a) := d1
          have r3 : w3.drew.ownsRow w.heap.size 64 5 (.slice (some ⟨gl, 0, none⟩) (k + 1) cap) (k + 1) (rowD (b :: r)) := by
            have := World.ownsRow.drew HQ.out.1
            rw [show (b :: r).length = k + 1 by rw [HK.out]; rfl] at this
            exact this
          have hs3 := HQ.out.2.size
          go_region_law (first
            | (refine step_appN _ (by rfl) (.tmp 61) (.tmp 73) 65 (by rfl) elemN_lvl w.heap.size _ (k + 1) (rowD (b :: r)) (by rfl) (World.ownsRow.alloc r3 _) _ (by rfl) 1 (cellsD ⟨51, a, 0, 0, false⟩) (.inr ⟨⟨w3.heap.size, 0, none⟩, 1, rfl, cells_new9 w3.drew (cellsD ⟨51, a, 0, 0, false⟩) 64 _ rfl⟩) rfl (by simp [cellsD, Value.oneCell']) (by unfold maxLen; omega) (by omega) (by simp; omega) ?_; intro v' w12 hr12 hs12; obtain ⟨y12, t12, ev, HZ⟩ := ps_app (HK := HK.out) (ps_drew HQ.out) (World.ownsRow.alloc r3 _) hr12 hs12; subst ev; clear hr12 hs12))
          all_goals
            go_wp2_with fail
            exact ⟨⟨i + 1, y12, t12, _ :: b :: r, by go_num, by omega, by rw [List.length_cons, List.length_cons, ← HK.out], hid9 ⟨HS2.out, HZ.out.1, HZ.out.2⟩⟩, by simp [intOf]; omega⟩
      have HD : Hid (dstep cal (o, a) (b :: r) = { b with s := cut (b.s + costN o) } :: r) := hid9 (by simp only [dstep]; rw [if_neg o1, if_neg o2, if_neg o3, if_neg o4])
      rw [HD.out] at HS2
      have n1 : (o == 48) = false := by simp; omega
      have n2 : (o == 51) = false := by simp; omega
      have n3 : (o == 49) = false := by simp; omega
      have n4 : (o == 50) = false := by simp; omega
      have n5 : (o == 53) = false := by simp; omega
      have CU : Hid (∀ z W, z = ((b.s + costN o : Nat) : Int) → Calls Tryz.prog 30 #[.int .i64 z] W fun e w' => e = .returned (.int .i64 (cut (b.s + costN o) : Nat)) ∧ w' = W) := hid9 fun z W hz => rcut_any z (b.s + costN o) hz W
      go_wp2_with (first
        | (go_at_call 29; refine HC.out.mono ?_; clear HC; rintro e w3 ⟨rfl, hcc, ⟨⟨t0, t1, t2, t3, t4⟩, f2, f3, f4⟩, HQ⟩; obtain ⟨d0, d1⟩ := hcc _ _ rfl; clear hcc)
        | (go_at_call 30; refine (CU.out _ _ (by omega)).mono ?_; clear CU; rintro e w9 ⟨rfl, w9e⟩; rw [w9e]; clear w9e)
        | fail)
      have h1 := ps_set (b' := { b with s := cut (b.s + costN o) }) HQ.out HK.out 2 _ rfl
      exact ⟨⟨i + 1, gl, cap, _ :: r, by go_num, by omega, by rw [List.length_cons, ← HK.out], hid9 ⟨HS2.out, h1.1, h1.2⟩⟩, by simp [intOf]; omega⟩
    · have hE := hid9 (atD_done HG.out (show AtD cal cs cs.length S by have := HP.out.1.1; rw [show i = cs.length by rw [HN.out]; omega] at this; exact this))
      obtain ⟨b, rfl, hb⟩ := hE.out
      have hT := HP.out.2.1.topL (r := []) rfl
      obtain ⟨⟨t0, t1, t2, t3, t4⟩, _⟩ := hT
      simp only [List.length_nil, Nat.zero_mul, Nat.zero_add, hb] at t2
      simp only [List.length_singleton]
      clear hE hb t0 t1 t3 t4
      go_wp2_with fail
      go_ret2
      exact ⟨rfl, HP.out.2.2⟩
end Go.Proofs.YtodagpmcmjleaaaGreat
namespace Go.Proofs.YtodagpmcmjleaaaGreat
open Go.RowKit
set_option maxRecDepth 100000 in
set_option maxHeartbeats 1000000 in
theorem rpart9_any (cs : List (Int × Int)) (cal : List Int) (ca la : Option Addr) (cc lc n l : Nat) (hn : cs.length = n) (hl : cal.length = l) (bn : n ≤ 1000000) (bl : l ≤ 1000000000000000) (w : World) (hi : IsAt w.cell? ca cs) (hz : NsAt w.cell? la cal) :
    Calls Tryz.prog 17 #[.slice ca n cc, .slice la l lc] w fun e w' => e = .returned (.tuple #[.int .i64 ((partS cs cal).1 : Nat), .int .i64 (partS cs cal).2]) ∧ Below w.heap.size w w' := by
  have HM := hid9 (rmatch_any cs ca cc n hn bn w hi)
  by_cases hg : goodS cs = true
  · by_cases hr : rightB cs cal = true
    · rw [show partS cs cal = (gasS cal cs, 0) from by unfold partS; rw [if_pos hg, if_pos hr]]
      exact rpart_good cs cal ca la cc lc n l hn hl bn bl w hi hz hg hr
    · rw [show partS cs cal = (0, 1) from by unfold partS; rw [if_pos hg, if_neg hr]]
      rw [Bool.not_eq_true] at hr
      replace HM : Hid (Calls Tryz.prog 16 #[.slice ca n cc] w fun e w' => ∃ g : Nat, e = .returned (.tuple #[.slice (some ⟨g, 0, none⟩) n n, .int .i64 0]) ∧ Hid (Below w.heap.size w w')) := hid9 (HM.out.mono fun e w' ⟨h1, h2⟩ => by
        rw [if_pos hg, hn] at h1
        obtain ⟨g, _, h1, _⟩ := h1
        exact ⟨g, h1, hid9 h2⟩)
      have HR : Hid (∀ W, Below w.heap.size w W → Calls Tryz.prog 28 #[.slice ca n cc, .slice la l lc] W fun e w' => e = .returned (.bool false) ∧ w' = W) := hid9 fun W hb => by
        have := rfine_any cs cal ca la cc lc n l hn hl (by omega) bl W (hi.keep (below_keep hb)) (hz.keep (below_keep hb))
        rw [hr] at this
        exact this
      clear hi hz hg hr hn hl
      go_enter Tryz.func17, Tryz.ntmps17
      go_wp2_with (first
        | (go_at_call 16; refine HM.out.mono ?_; clear HM; rintro e w1 ⟨g, rfl, HW⟩)
        | (go_at_call 28; refine (HR.out _ HW.out).mono ?_; clear HR; rintro e w2 ⟨rfl, w2e⟩; rw [w2e]; clear w2e)
        | fail)
      go_ret2
      exact ⟨rfl, HW.out⟩
  · rw [show partS cs cal = (0, 31) from by unfold partS; rw [if_neg hg]]
    replace HM : Hid (Calls Tryz.prog 16 #[.slice ca n cc] w fun e w' => e = .returned (.tuple #[.slice none 0 0, .int .i64 31]) ∧ Hid (Below w.heap.size w w')) := hid9 (HM.out.mono fun e w' ⟨h1, h2⟩ => by
      rw [if_neg hg] at h1
      exact ⟨h1, hid9 h2⟩)
    clear hi hz hg hn hl
    go_enter Tryz.func17, Tryz.ntmps17
    go_wp2_with (first | (go_at_call 16; refine HM.out.mono ?_; clear HM; rintro e w1 ⟨rfl, HW⟩) | fail)
    go_ret2
    exact ⟨rfl, HW.out⟩
end Go.Proofs.YtodagpmcmjleaaaGreat
