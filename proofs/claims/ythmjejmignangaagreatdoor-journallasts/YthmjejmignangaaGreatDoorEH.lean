/- Layer 15: a file's end is trimmed. -/
import Derived.Test.YthmjejmignangaaGreatDoorEF
namespace Go.Proofs.YthmjejmignangaaGreatDoor
open Go.RowKit
theorem eq_sec (b c : Bt) (x y : Bool) (w : World) : (Op.equalIn 10000 76 (.agg #[sv b, .bool x]) (.agg #[sv c, .bool y])).run Tryz.prog w = .ok (decide (b = c) && decide (x = y)) w := by
  have hS : Tryz.prog.underlying 76 = some (.struct (Tryz.prog.fieldsOf 76)) := by kernel_rfl
  rw [show (10000 : Nat) = 9999 + 1 from rfl, run_equalIn_agg w 9999 76 _ _ hS (by kernel_rfl)]
  simp only [Program.fieldsOf, Tryz.underlying76]
  go_simp
  by_cases h1 : b = c <;> cases x <;> cases y <;> simp [h1]
theorem eq_sec0 (b : Bt) (x y : Bool) (w : World) : (Op.equalIn 10000 76 (.agg #[sv b, .bool x]) (.agg #[.string ⟨#[]⟩, .bool y])).run Tryz.prog w = .ok (decide (b = []) && decide (x = y)) w := eq_sec b [] x y w
abbrev mkC (s : Sec) : Cl := ⟨s, none⟩
theorem mkC_sure (L : List Sec) : (L.map mkC).map Cl.s = L := by
  rw [List.map_map]
  exact List.map_id L
theorem mkC_wr (nm : Bt) (L : List Sec) (k : Nat) : (Fl.mk nm (L.map mkC)).wr k = none := by
  rw [wr_nth]
  show ((L.map mkC)[k]?).bind Cl.n = none
  rw [List.getElem?_map]
  cases L[k]? <;> rfl
theorem row_cut {w : World} {base q n i c : Nat} {L : List Sec} (h : w.ownsRow base 76 2 (.slice (some ⟨q, 0, none⟩) n c) n (secCs L)) (hi : i ≤ n) : w.ownsRow base 76 2 (.slice (some ⟨q, 0, none⟩) i c) i (secCs (L.take i)) := by
  have hl : L.length = n := by have := h.1; rw [secCs_length] at this; omega
  rcases h.2 with ⟨e, _⟩ | ⟨q', c', cur, e, h1, h2, h3, h4, h5, h6⟩
  · cases e
  · injection e with e1 _ e3
    injection e1 with e1
    injection e1 with e1
    subst e1; subst e3
    refine ⟨by rw [secCs_length, List.length_take]; omega, .inr ⟨q, c, cur, rfl, h1, h2, by omega, h4, h5, ?_⟩⟩
    rw [← secCs_take, ← h6, List.take_take]
    congr 1
    omega
/-- The slice is another one of the same block. -/
theorem FMid.sl {g g1 : Fg} {f1 : Fl} {w W : World} (h : FMid g g1 f1 w W) (hm : g1.mp = none) (v' : Value) (L : List Sec) (hob : v'.ownBlock = g1.sl.ownBlock) (hr : W.ownsRow 0 76 2 v' L.length (secCs L)) (hl : L.length ≤ 65536) :
    FMid g ⟨g1.fb, v', none⟩ ⟨f1.name, L.map mkC⟩ w (W.setCell ⟨g1.fb, 1, none⟩ v') := by
  have F := h.at_
  have bx := F.box
  rw [hm] at bx
  refine ⟨⟨(heap_setCell_same _ _ _ _ _ _ bx).trans rfl, ?_, .inl ⟨rfl, mkC_wr _ _⟩, by simpa using hl, by rw [hob]; exact F.a1, by simp, fun _ _ => by simp⟩, h.fb, ?_, h.kt.set fun _ => h.fbs⟩
  · show (W.setCell ⟨g1.fb, 1, none⟩ v').ownsRow 0 _ 2 v' (L.map mkC).length (secCs ((L.map mkC).map Cl.s))
    rw [mkC_sure, List.length_map]
    exact row_keep hr fun j hj => Below.heap_setCell _ _ _ _ (fun x => F.a1 (by rw [← hob, hj, x]))
  · intro j hj
    rcases hj with x | x | x
    · exact h.has j (.inl x)
    · exact h.has j (.inr (.inl (by rw [← hob]; exact x)))
    · cases x
/-- The row holds other sectors. -/
theorem FMid.cells {g g1 : Fg} {f1 : Fl} {w W W' : World} (h : FMid g g1 f1 w W) (hm : g1.mp = none) (L : List Sec) (hl : L.length = f1.cs.length) (hr : W'.ownsRow 0 76 2 g1.sl L.length (secCs L)) (k : Kt (fun i => g1.sl.ownBlock = some i) W W') : FMid g g1 ⟨f1.name, L.map mkC⟩ w W' := by
  have F := h.at_
  refine ⟨⟨(k.block _ (heap_ltb F.box) F.a1).trans F.box, ?_, ?_, by simp; rw [hl]; exact F.len, F.a1, F.a2, F.a3⟩, h.fb, h.has, h.kts (k.mono fun i _ x => .inr (.inl x))⟩
  · show W'.ownsRow 0 _ 2 g1.sl (L.map mkC).length (secCs ((L.map mkC).map Cl.s))
    rw [mkC_sure, List.length_map]
    exact hr
  · exact .inl ⟨hm, mkC_wr _ _⟩
theorem cutS_snoc (M : List Sec) : cutS (M ++ [noSec]) = cutS M := by
  induction M with
  | nil => rfl
  | cons x M ih => rw [List.cons_append, cutS, cutS, ih]
theorem cutS_last {M : List Sec} {x : Sec} (h : x ≠ noSec) : cutS (M ++ [x]) = M ++ [x] := by
  induction M with
  | nil => rw [List.nil_append, cutS, if_neg (fun e => h e.1)]; rfl
  | cons y M ih => rw [List.cons_append, cutS, ih, if_neg (fun e => by simp at e)]
def zrS (x : Sec) : Sec := if x = noSec then fillS [] else x
/-- While the end is cut. -/
structure TrI (g : Fg) (f : Fl) (a : Option Addr) (c : Nat) (j : Nat) (w W : World) : Prop where
  jl : j ≤ f.cs.length
  mid : FMid g ⟨g.fb, .slice a j c, none⟩ ⟨f.name, (f.sure.take j).map mkC⟩ w W
  cut : cutS f.sure = cutS (f.sure.take j)
  box : W.heap[w.heap.size]? = some (.cells #[.string ⟨#[]⟩, .bool false] 76 (0, 0))
/-- While nothings are made zeros: k of them are done. -/
structure TzI (g : Fg) (f : Fl) (a : Option Addr) (c : Nat) (M : List Sec) (k : Nat) (w W : World) : Prop where
  mid : FMid g ⟨g.fb, .slice a M.length c, none⟩ ⟨f.name, ((M.take k).map zrS ++ M.drop k).map mkC⟩ w W
  box : W.heap[w.heap.size]? = some (.cells #[.string ⟨#[]⟩, .bool false] 76 (0, 0))
theorem sure_len (f : Fl) : f.sure.length = f.cs.length := by simp [Fl.sure]
theorem FMid.rowL {g : Fg} {fb : Nat} {sl : Value} {mp : Option Nat} {nm : Bt} {L : List Sec} {w W : World} (h : FMid g ⟨fb, sl, mp⟩ ⟨nm, L.map mkC⟩ w W) : W.ownsRow 0 76 2 sl L.length (secCs L) := by
  have : W.ownsRow 0 76 2 sl (L.map mkC).length (secCs ((L.map mkC).map Cl.s)) := h.at_.row
  rw [mkC_sure, List.length_map] at this
  exact this
theorem zr_len (M : List Sec) (k : Nat) : ((M.take k).map zrS ++ M.drop k).length = M.length := by simp; omega
theorem zr_at (M : List Sec) (k : Nat) (h : k < M.length) : ((M.take k).map zrS ++ M.drop k)[k]? = M[k]? := by
  rw [List.getElem?_append_right (by simp; omega), List.getElem?_drop]
  congr 1
  simp
  omega
theorem zr_step (M : List Sec) (k : Nat) (h : k < M.length) : (M.take (k + 1)).map zrS ++ M.drop (k + 1) = ((M.take k).map zrS ++ M.drop k).set k (zrS M[k]) := by
  rw [List.set_append_right _ _ (by simp; omega), List.take_succ_eq_append_getElem h, List.map_append]
  have : k - ((M.take k).map zrS).length = 0 := by simp; omega
  rw [this, List.drop_eq_getElem_cons h, List.set_cons_zero, List.append_assoc]
  rfl
theorem zr_same (M : List Sec) (k : Nat) (h : k < M.length) (e : M[k] ≠ noSec) : (M.take (k + 1)).map zrS ++ M.drop (k + 1) = (M.take k).map zrS ++ M.drop k := by
  rw [zr_step M k h]
  apply List.ext_getElem?
  intro i
  rw [List.getElem?_set, zr_len]
  split
  · rename_i x; subst x; rw [zr_at M k h, List.getElem?_eq_getElem h]; simp [zrS, e]
  · rfl
theorem sec_no {y : Sec} : y = noSec ↔ y.b = [] ∧ y.bad = false := by
  obtain ⟨b, x⟩ := y
  simp [noSec]
theorem eqno {y : Sec} (h : ¬ y = noSec) : (decide (y.b = []) && !y.bad) = false := by
  cases h2 : (decide (y.b = []) && !y.bad) with
  | false => rfl
  | true => simp at h2; exact absurd (sec_no.2 h2) h
theorem eqyes {y : Sec} (h : y = noSec) : (decide (y.b = []) && !y.bad) = true := by
  obtain ⟨h1, h2⟩ := sec_no.1 h
  simp [h1, h2]
theorem take_cut (M : List Sec) (i : Nat) (h : i < M.length) : M.take (i + 1) = M.take i ++ [M[i]] := List.take_succ_eq_append_getElem h
theorem TrI.drewN {g : Fg} {f : Fl} {a : Option Addr} {c j : Nat} {w W : World} (h : TrI g f a c j w W) (mm : Nat) : TrI g f a c j w (W.drewN mm) := ⟨h.jl, h.mid.below ⟨rfl, rfl, rfl, Nat.le_refl _, fun _ _ => rfl⟩, h.cut, h.box⟩
theorem TrI.drew {g : Fg} {f : Fl} {a : Option Addr} {c j : Nat} {w W : World} (h : TrI g f a c j w W) : TrI g f a c j w W.drew := ⟨h.jl, h.mid.below ⟨rfl, rfl, rfl, Nat.le_refl _, fun _ _ => rfl⟩, h.cut, h.box⟩
theorem TrI.step {g : Fg} {f : Fl} {q c i : Nat} {w W : World} (h : TrI g f (some ⟨q, 0, none⟩) c (i + 1) w W) (hi : i < f.sure.length) (hy : f.sure[i] = noSec) (hfb : g.fb < w.heap.size) : TrI g f (some ⟨q, 0, none⟩) c i w (W.setCell ⟨g.fb, 1, none⟩ (.slice (some ⟨q, 0, none⟩) i c)) := by
  have el : (f.sure.take (i + 1)).length = i + 1 := by rw [List.length_take]; omega
  have r1 := h.mid.rowL
  rw [el] at r1
  have r2 := row_cut r1 (i := i) (by omega)
  have e2 : (f.sure.take (i + 1)).take i = f.sure.take i := by rw [List.take_take]; congr 1; omega
  have e3 : (f.sure.take i).length = i := by rw [List.length_take]; omega
  rw [e2] at r2
  refine ⟨by have := h.jl; omega, ?_, ?_, (Below.heap_setCell _ _ _ _ (by show w.heap.size ≠ g.fb; omega)).trans h.box⟩
  · have hl : ((f.sure.take (i + 1)).map mkC).length ≤ 65536 := h.mid.at_.len
    rw [List.length_map, el] at hl
    exact h.mid.sl rfl (.slice (some ⟨q, 0, none⟩) i c) (f.sure.take i) rfl (by rw [e3]; exact r2) (by omega)
  · rw [h.cut, take_cut _ i hi, hy, cutS_snoc]
theorem TzI.start {g : Fg} {f : Fl} {a : Option Addr} {c j : Nat} {w W : World} (h : TrI g f a c j w W) (hj : j ≤ f.sure.length) (M : List Sec) (hM : M = f.sure.take j) : TzI g f a c M 0 w W := by
  subst hM
  have e : (f.sure.take j).length = j := by rw [List.length_take]; omega
  refine ⟨?_, h.box⟩
  rw [e]
  exact h.mid
theorem TzI.same {g : Fg} {f : Fl} {a : Option Addr} {c k : Nat} {M : List Sec} {w W W' : World} (h : TzI g f a c M k w W) (hk : k < M.length) (e : M[k] ≠ noSec) (b : Below W.heap.size W W') : TzI g f a c M (k + 1) w W' := by
  refine ⟨?_, (b.block _ (heap_ltb h.box)).trans h.box⟩
  rw [zr_same M k hk e]
  exact h.mid.below b
theorem TzI.put {g : Fg} {f : Fl} {q c k : Nat} {M : List Sec} {w W W' : World} (h : TzI g f (some ⟨q, 0, none⟩) c M k w W) (hk : k < M.length) (e : M[k] = noSec) (b : Below W.heap.size W W') (hq : q < w.heap.size) : TzI g f (some ⟨q, 0, none⟩) c M (k + 1) w ((W'.setCell ⟨q, k * 2, none⟩ (sv (padB []))).setCell ⟨q, k * 2 + 1, none⟩ (.bool false)) := by
  have m2 := h.mid.below b
  have r1 := m2.rowL
  rw [zr_len] at r1
  obtain ⟨r2, r3⟩ := row_put r1 k (fillS []) (by rw [zr_len]; exact hk)
  have hz : zrS M[k] = fillS [] := by rw [e]; rfl
  refine ⟨?_, ?_⟩
  · rw [zr_step M k hk, hz]
    refine m2.cells rfl _ (by rw [List.length_set, List.length_map]) ?_ (Kt.grown r3 rfl)
    rw [List.length_set, zr_len]
    exact r2
  · rw [Below.heap_setCell _ _ _ _ (by show w.heap.size ≠ q; omega), Below.heap_setCell _ _ _ _ (by show w.heap.size ≠ q; omega), b.block _ (heap_ltb h.box)]
    exact h.box
attribute [local go_sem high] eq_sec eq_sec0
set_option maxRecDepth 100000 in
set_option maxHeartbeats 2000000 in
theorem trim15_any (w : World) (g : Fg) (f : Fl) (h : FlAt w g f) (hm : g.mp = none) (hw : f.cs = f.sure.map mkC) : Calls Tryz.prog 67 #[.pointer (some ⟨g.fb, 1, none⟩)] w fun e w' => e = .returned (.tuple #[]) ∧ Hid (FEnd g ⟨f.name, (trimS f.sure).map mkC⟩ w w') := by
  obtain ⟨a, c, e, h1, h2⟩ := h.form
  have hl := h.len
  have hfb := heap_ltb h.box
  obtain ⟨W0, hW0⟩ : ∃ W0, W0 = w.alloc (.cells #[.string ⟨#[]⟩, .bool false] 76) := ⟨_, rfl⟩
  have H0 : Hid (TrI g f a c f.cs.length w W0) := hidb (by
    refine ⟨Nat.le_refl _, ?_, by rw [← sure_len, List.take_length], by rw [hW0]; exact heap_alloc_new w _⟩
    have := (FMid.start h).below (W' := W0) (by rw [hW0]; exact (Below.refl _ w).alloc (Nat.le_refl _) _)
    rw [← sure_len f, List.take_length, ← hw, sure_len, ← e, ← hm]
    exact this)
  have HQ : Hid (∀ k, k < f.cs.length → ∃ q, a = some ⟨q, 0, none⟩ ∧ q < w.heap.size) := hidb fun k hk => by
    have hrow := h.row
    rw [e] at hrow
    obtain ⟨a', c', e1, _, _, e3⟩ := row_form hrow
    injection e1 with e1
    subst e1
    rcases e3 with ⟨_, x, _⟩ | ⟨q, x, _, y, _⟩
    · omega
    · exact ⟨q, x, y⟩
  have HLn := hidb (sure_len f)
  clear h hm hw e
  generalize f.cs.length = n at *
  go_enter Tryz.func67, Tryz.ntmps67
  go_wp2_with fail
  rw [← hW0]
  clear hW0
  go_loopw [6] (fun _ wr => ∃ j : Nat, j ≤ n ∧ Hid (TrI g f a c j w wr)) (fun _ wr => match wr.cell? ⟨g.fb, 1, none⟩ with | some (.slice _ j _) => j | _ => 0)
  case atStart => exact ⟨n, Nat.le_refl _, H0⟩
  case round =>
    clear H0
    obtain ⟨j, hj, HI⟩ := hrel
    have c1 := HI.out.mid.at_.c1
    have bx := HI.out.box
    have x0 := Lib.cell_of_heap bx 0
    have x1 := Lib.cell_of_heap bx 1
    simp at x0 x1
    simp only at c1
    by_cases hj0 : j = 0
    · subst hj0
      obtain ⟨m, M, hm0, HMl, HMc, HH⟩ : ∃ m M, m = 0 ∧ Hid (M.length = m) ∧ Hid (cutS f.sure = M) ∧ Hid (∀ mm, TzI g f a c M 0 w (wr.drewN mm)) := ⟨0, [], rfl, hidb rfl, hidb HI.out.cut, hidb fun mm => ⟨by
        have := HI.out.mid.below (W' := wr.drewN mm) ⟨rfl, rfl, rfl, Nat.le_refl _, fun _ _ => rfl⟩
        exact this, HI.out.box⟩⟩
      go_wp2_with fail
      go_quiet (fail)
      have H1 := hidb (HH.out nq)
      have d1 := H1.out.mid.at_.c1
      generalize wr.drewN nq = wq at *
      simp only at d1
      rw [HMl.out] at d1
      rw [hm0] at d1
      clear c1 x0 x1 bx HI HH hj
      have hmn : m ≤ n := by omega
      go_wp2_with fail
      go_loopw [47] (fun iv wr2 => ∃ k : Nat, iv = .int .i64 k ∧ k ≤ m ∧ Hid (TzI g f a c M k w wr2)) (fun iv _ => m - (intOf iv).toNat)
      case atStart => exact ⟨0, rfl, Nat.zero_le _, H1⟩
      case round =>
        clear H1
        obtain ⟨k, rfl, hk, HJ⟩ := hrel
        by_cases hkm : k < m
        · omega
        · have HE : Hid (FEnd g ⟨f.name, (trimS f.sure).map mkC⟩ w wr) := hidb ⟨_, by
            have := HJ.out.mid
            have e1 : M.take k = M := List.take_of_length_le (by rw [HMl.out]; omega)
            have e2 : M.drop k = [] := List.drop_eq_nil_of_le (by rw [HMl.out]; omega)
            rw [e1, e2, List.append_nil] at this
            rw [trimS, HMc.out]
            exact this⟩
          go_wp2_with fail
          go_end0
          exact ⟨rfl, HE⟩
    · obtain ⟨i, rfl⟩ : ∃ i, j = i + 1 := ⟨j - 1, by omega⟩
      obtain ⟨q, rfl, hq⟩ := HQ.out i (by omega)
      have hiL : i < f.sure.length := by rw [HLn.out]; omega
      have r1 := HI.out.mid.rowL
      have el : (f.sure.take (i + 1)).length = i + 1 := by rw [List.length_take]; omega
      rw [el] at r1
      obtain ⟨y, e0, s0, s1, _, _⟩ := row_two r1 i (by omega)
      have hyL : y = f.sure[i] := by
        rw [List.getElem?_take_of_lt (by omega), List.getElem?_eq_getElem hiL] at e0
        injection e0 with e0
        exact e0.symm
      have f1 := HI.out.mid.at_.fr 1
      simp only at f1
      by_cases hy : y = noSec
      · have hyy := eqyes hy
        have HY : Hid (f.sure[i] = noSec) := hidb (hyL ▸ hy)
        clear r1 e0 hyL hy el
        go_wp2_with fail
        go_quiet (fail)
        have HI2 := hidb (HI.out.drewN nq)
        have d1 : (wr.drewN nq).cell? ⟨g.fb, 1, none⟩ = some (.slice (some ⟨q, 0, none⟩) (i + 1) c) := c1
        have df : (wr.drewN nq).frozen? ⟨g.fb, 1, none⟩ = false := f1
        clear HI x0 x1 bx s0 s1 f1
        generalize wr.drewN nq = wq at *
        have HN := hidb (HI2.out.drew.step hiL HY.out hfb)
        go_wp2_with fail
        go_region
        go_roundw
        case rel => exact ⟨_, _, _, _, _, _, _, _, _, _, _, _, _, _, _, _, _, _, _, _, _, _, _, _, _, _, _, _, _, _, _, _, _, _, _, _, ⟨i, by omega, HN⟩, rfl⟩
        case measure =>
          have d2 := HN.out.mid.at_.c1
          simp only at d2
          have d3 : (wq.setCell ⟨g.fb, 1, none⟩ (.slice (some ⟨q, 0, none⟩) i c)).drew.cell? ⟨g.fb, 1, none⟩ = some (.slice (some ⟨q, 0, none⟩) i c) := d2
          rw [d3, c1]
          show i < i + 1
          omega
      · have hyy := eqno hy
        obtain ⟨m, M, hm0, HMl, HMc, HH⟩ : ∃ m M, m = i + 1 ∧ Hid (M.length = m) ∧ Hid (cutS f.sure = M) ∧ Hid (∀ mm, TzI g f (some ⟨q, 0, none⟩) c M 0 w (wr.drewN mm)) := ⟨i + 1, f.sure.take (i + 1), rfl, hidb el, hidb (by
          rw [HI.out.cut, take_cut _ i hiL]
          exact cutS_last (hyL ▸ hy)), hidb fun mm => TzI.start (HI.out.drewN mm) (by omega) _ rfl⟩
        clear r1 e0 hyL hy el
        go_wp2_with fail
        go_quiet (fail)
        have H1 := hidb (HH.out nq)
        have d1 : (wr.drewN nq).cell? ⟨g.fb, 1, none⟩ = some (.slice (some ⟨q, 0, none⟩) (i + 1) c) := c1
        rw [← hm0] at d1
        clear c1 x0 x1 bx HI HH s0 s1 f1
        generalize wr.drewN nq = wq at *
        have hmn : m ≤ n := by omega
        clear hm0
        go_wp2_with fail
        go_loopw [47] (fun iv wr2 => ∃ k : Nat, iv = .int .i64 k ∧ k ≤ m ∧ Hid (TzI g f (some ⟨q, 0, none⟩) c M k w wr2)) (fun iv _ => m - (intOf iv).toNat)
        case atStart => exact ⟨0, rfl, Nat.zero_le _, H1⟩
        case round =>
          clear H1
          obtain ⟨k, rfl, hk, HJ⟩ := hrel
          by_cases hkm : k < m
          · have hkM : k < M.length := by rw [HMl.out]; exact hkm
            have r1 := HJ.out.mid.rowL
            rw [zr_len, HMl.out] at r1
            obtain ⟨y2, e0, s0, s1, g0, g1⟩ := row_two r1 k hkm
            rw [zr_at M k hkM, List.getElem?_eq_getElem hkM] at e0
            injection e0 with e0
            have HY2 := hidb e0
            have d1 := HJ.out.mid.at_.c1
            simp only at d1
            rw [HMl.out] at d1
            have b0 := Lib.cell_of_heap HJ.out.box 0
            have b1 := Lib.cell_of_heap HJ.out.box 1
            simp at b0 b1
            have hbl := heap_ltb HJ.out.box
            have hql := (r1.lt q rfl).2
            have hfl := heap_ltb HJ.out.mid.at_.box
            simp only at hfl
            by_cases hy2 : y2 = noSec
            · have hyy2 := eqyes hy2
              have HF : Hid (∀ W, Below wr.heap.size wr W → Calls Tryz.prog 81 #[.string ⟨#[]⟩] W fun e w3 => e = .returned (.agg #[sv (padB []), .bool false]) ∧ w3.cell? ⟨g.fb, 1, none⟩ = some (.slice (some ⟨q, 0, none⟩) m c) ∧ w3.cell? ⟨q, k * 2, none⟩ = some (sv y2.b) ∧ w3.cell? ⟨q, k * 2 + 1, none⟩ = some (.bool y2.bad) ∧ w3.frozen? ⟨q, k * 2, none⟩ = false ∧ w3.frozen? ⟨q, k * 2 + 1, none⟩ = false ∧ Hid (TzI g f (some ⟨q, 0, none⟩) c M (k + 1) w ((w3.setCell ⟨q, k * 2, none⟩ (sv (padB []))).setCell ⟨q, k * 2 + 1, none⟩ (.bool false)))) := hidb fun W hb => by
                refine (filled_any [] W (by simp)).mono fun e w3 ⟨e1, hb3⟩ => ?_
                have hb4 : Below wr.heap.size wr w3 := hb.trans (hb3.mono hb.size)
                refine ⟨e1, (hb4.cell (p := ⟨g.fb, 1, none⟩) hfl).trans d1, (hb4.cell (p := ⟨q, k * 2, none⟩) hql).trans s0, (hb4.cell (p := ⟨q, k * 2 + 1, none⟩) hql).trans s1, (hb4.frozen (p := ⟨q, k * 2, none⟩) hql).trans g0, (hb4.frozen (p := ⟨q, k * 2 + 1, none⟩) hql).trans g1, hidb (HJ.out.put hkM (HY2.out.trans hy2) hb4 hq)⟩
              clear r1 hy2 e0
              obtain ⟨W4, hW4⟩ : ∃ W4, W4 = wr.alloc (.cells #[sv y2.b, .bool y2.bad] 76) := ⟨_, rfl⟩
              have hb4 : Below wr.heap.size wr W4 := by rw [hW4]; exact (Below.refl _ wr).alloc (Nat.le_refl _) _
              replace HF := hidb (HF.out W4.drew hb4.drew)
              have z1 := (hb4.cell (p := ⟨g.fb, 1, none⟩) hfl).trans d1
              go_wp2_with fail
              rw [← hW4]
              clear hW4 s0 s1 g0 g1 d1 b0 b1 hb4
              go_region_with (first | (go_at_call 81; refine HF.out.mono ?_; rintro e w3 ⟨rfl, t1, t2, t3, t4, t5, T⟩) | fail)
              all_goals go_wp2_with fail
              all_goals exact ⟨⟨k + 1, by go_num, by omega, T⟩, by simp [intOf]; omega⟩
            · have hyy2 := eqno hy2
              have HS : Hid (TzI g f (some ⟨q, 0, none⟩) c M (k + 1) w (wr.alloc (.cells #[sv y2.b, .bool y2.bad] 76))) := hidb (HJ.out.same hkM (fun x => hy2 (HY2.out.symm.trans x)) ((Below.refl _ wr).alloc (Nat.le_refl _) _))
              clear r1 hy2 e0
              go_wp2_with fail
              refine ⟨⟨k + 1, by go_num, by omega, HS⟩, by simp [intOf]; omega⟩
          · have HE : Hid (FEnd g ⟨f.name, (trimS f.sure).map mkC⟩ w wr) := hidb ⟨_, by
              have := HJ.out.mid
              have e1 : M.take k = M := List.take_of_length_le (by rw [HMl.out]; omega)
              have e2 : M.drop k = [] := List.drop_eq_nil_of_le (by rw [HMl.out]; omega)
              rw [e1, e2, List.append_nil] at this
              rw [trimS, HMc.out]
              exact this⟩
            go_wp2_with fail
            go_end0
            exact ⟨rfl, HE⟩
end Go.Proofs.YthmjejmignangaaGreatDoor
