/- Layer 9: bound.Funcs and bound.Total. Layer 9: bound.Funcs and bound.Total, of any script. Layer 9: bound.Total, of any script. Layer 10: the steps of verify: where they stand. -/
import Derived.Test.YtfnpngbcnmglfaaGreatXN
import Derived.Test.YtfnpngbcnmglfaaGreatSL
import Derived.Shelf.Abstract
namespace Go.Proofs.YtfnpngbcnmglfaaGreat
open Go.RowKit
/-- The instructions of function f. -/
def codeS (s : Scr) (f : Nat) : List (Int × Int) := match s.funcs[f]? with | some g => g.code | none => []
def bstep (s : Scr) (B : List Int) (f : Nat) : List Int := B.set f ((gasS B (codeS s f) : Nat) : Int)
/-- The bounds, those of o being told. -/
def bndS (s : Scr) (o : List Nat) : List Int := o.foldl (bstep s) (List.replicate s.funcs.length 0)
def allGood (s : Scr) : Bool := s.funcs.all fun g => goodS g.code
theorem bnd_snoc (s : Scr) (o : List Nat) (f : Nat) : bndS s (o ++ [f]) = bstep s (bndS s o) f := by simp [bndS, List.foldl_append]
theorem bnd_len (s : Scr) (o : List Nat) : (bndS s o).length = s.funcs.length := by
  have : ∀ (o : List Nat) (B : List Int), (o.foldl (bstep s) B).length = B.length := by
    intro o
    induction o with
    | nil => intro B; rfl
    | cons f o ih => intro B; rw [List.foldl_cons, ih]; simp [bstep]
  rw [bndS, this]; simp
theorem code_good {s : Scr} (h : allGood s = true) (f : Nat) : goodS (codeS s f) = true := by
  unfold codeS
  split
  · rename_i g hg
    exact List.all_eq_true.1 h g (List.mem_of_getElem? hg)
  · rfl
/-- Bounds are no less than zero, and are cut. -/
def OkB (n : Nat) (B : List Int) : Prop := B.length = n ∧ ∀ z ∈ B, 0 ≤ z ∧ z ≤ 1048577
theorem okB_start (n : Nat) : OkB n (List.replicate n 0) := ⟨by simp, fun z hz => by rw [(List.mem_replicate.1 hz).2]; omega⟩
theorem okB_step {s : Scr} {n : Nat} {B : List Int} {f : Nat} (h : OkB n B) (hg : goodS (codeS s f) = true) : OkB n (bstep s B f) := by
  refine ⟨by rw [bstep, List.length_set]; exact h.1, fun z hz => ?_⟩
  rcases List.mem_or_eq_of_mem_set hz with hz | hz
  · exact h.2 z hz
  · have := gas_le (cal := B) hg
    unfold TM at this
    omega
theorem right_part {s : Scr} (hr : s.right = true) {f : Nat} (hf : f < s.funcs.length) {B : List Int} (hB : OkB s.funcs.length B) : rightB (codeS s f) B = true := by
  obtain ⟨_, _, r3⟩ := right_calls hr
  have hg : s.funcs[f] ∈ s.funcs := List.getElem_mem hf
  have e : codeS s f = s.funcs[f].code := by unfold codeS; rw [List.getElem?_eq_getElem hf]
  obtain ⟨_, r5⟩ := r3 _ hg
  have r6 : ∀ x ∈ s.funcs[f].code, x.1 = 51 → 0 ≤ x.2 := fun x hx h51 => by
    simp only [Scr.right, Bool.and_eq_true, decide_eq_true_eq, List.all_eq_true] at hr
    obtain ⟨_, h3⟩ := hr
    have h4 := h3 _ hg
    simp only [Fn.right, Bool.and_eq_true, List.all_eq_true] at h4
    have := h4.2 x hx
    simp only [insOk, Bool.and_eq_true, decide_eq_true_eq] at this
    obtain ⟨⟨_, i3⟩, _⟩ := this
    have e : takesN x.1 = 4 := by rw [h51]; rfl
    rw [e] at i3
    simp [boundsN] at i3
    omega
  rw [e, rightB, Bool.and_eq_true, Bool.not_eq_true', Bool.not_eq_true', List.any_eq_false, List.any_eq_false]
  refine ⟨fun x hx => ?_, fun z hz => ?_⟩
  · unfold wrong9
    split
    · rename_i h53
      have := r5 x hx h53
      rw [hB.1]
      simp
      omega
    · split
      · rename_i h51
        have := r6 x hx h51
        simp
        omega
      · simp
  · have := (hB.2 z hz).1
    simp [below9]
    omega
/-- What Funcs answers. -/
def funS (s : Scr) : Int × List Int := if s.right = true then (match ordS s.funcs.length (gF s) with
    | none => (34, [])
    | some o => if allGood s = true then (0, bndS s o) else (31, []))
  else (30, [])
def FunEnd (R : Int × List Int) (w : World) (e : Ending) (w' : World) : Prop := ∃ a c, e = .returned (.tuple #[.slice a R.2.length c, .int .i64 R.1]) ∧ NsAt w'.cell? a R.2 ∧ Below w.heap.size w w'
theorem fun_no {s : Scr} (h : ¬ s.right = true) : funS s = (30, []) := by rw [funS, if_neg h]
theorem fun_none {s : Scr} (h : s.right = true) (ho : ordS s.funcs.length (gF s) = none) : funS s = (34, []) := by rw [funS, if_pos h, ho]
theorem fun_bad {s : Scr} {o : List Nat} (h : s.right = true) (ho : ordS s.funcs.length (gF s) = some o) (hg : ¬ allGood s = true) : funS s = (31, []) := by rw [funS, if_pos h, ho]; simp only; rw [if_neg hg]
theorem fun_good {s : Scr} {o : List Nat} (h : s.right = true) (ho : ordS s.funcs.length (gF s) = some o) (hg : allGood s = true) : funS s = (0, bndS s o) := by rw [funS, if_pos h, ho]; simp only; rw [if_pos hg]
/-- What Total answers. -/
def totS (s : Scr) : Int × Int := if (funS s).1 = 0 then (if 1048576 < (funS s).2.getD 0 0 then (35, 0) else (0, (funS s).2.getD 0 0)) else ((funS s).1, 0)
theorem bad_at {s : Scr} {o : List Nat} (ho : ordS s.funcs.length (gF s) = some o) (hg : ¬ allGood s = true) : ∃ f ∈ o, ¬ goodS (codeS s f) = true := by
  obtain ⟨hol, hTo⟩ := ord_told (n := s.funcs.length) (g := gF s) ho
  apply Classical.byContradiction
  intro hne
  apply hg
  unfold allGood
  rw [List.all_eq_true]
  intro g hgm
  obtain ⟨f, hf, rfl⟩ := List.getElem_of_mem hgm
  apply Classical.byContradiction
  intro hb
  exact hne ⟨f, told_all hTo hol hf, by unfold codeS; rw [List.getElem?_eq_getElem hf]; exact hb⟩
/-- The bounds in the block that was made for them. -/
def FillB (W : World) (b : Nat) (B : List Int) : Prop := Fill W b 3 B.length (fun j => .int .i64 (B.getD j 0))
theorem FillB.ns {W : World} {b : Nat} {B : List Int} (h : FillB W b B) : NsAt W.cell? (some ⟨b, 0, none⟩) B := .inr ⟨b, 0, rfl, fun j hj => by
  rw [Nat.zero_add, Fill.cell h hj]
  simp [List.getD, hj]⟩
theorem FillB.step {W : World} {b : Nat} {B : List Int} (h : FillB W b B) (f : Nat) (v : Int) (hf : f < B.length) : FillB (W.setCell ⟨b, f, none⟩ (.int .i64 v)) b (B.set f v) := by
  have h1 := Fill.set h f (.int .i64 v)
  unfold FillB
  rw [List.length_set]
  refine h1.congr fun j hj => ?_
  by_cases e : j = f
  · subst e; simp [List.getD, hf]
  · simp [List.getD, e, List.getElem?_set_ne (Ne.symm e)]
end Go.Proofs.YtfnpngbcnmglfaaGreat
namespace Go.Proofs.YtfnpngbcnmglfaaGreat
open Go.RowKit
theorem code_at {s : Scr} {a1 : Option Addr} {W : World} (h : FsAt W.cell? a1 s.funcs) {f : Nat} (hf : f < s.funcs.length) : ∃ fb fo ca cc, a1 = some ⟨fb, fo, none⟩ ∧ W.cell? ⟨fb, fo + f * 4 + 3, none⟩ = some (.slice ca (codeS s f).length cc) ∧ IsAt W.cell? ca (codeS s f) := by
  have e : codeS s f = s.funcs[f].code := by unfold codeS; rw [List.getElem?_eq_getElem hf]
  rcases h with h | ⟨fb, fo, rfl, h⟩
  · rw [h] at hf; cases hf
  · obtain ⟨v0, v1, v2, v3, _, _, _, h3, _, _, _, ca, cc, rfl, hI⟩ := h f hf
    rw [e]
    exact ⟨fb, fo, ca, cc, rfl, h3, hI⟩
theorem partS_good {c : List (Int × Int)} {ls : List Int} (hg : goodS c = true) (hr : rightB c ls = true) : partS c ls = (gasS ls c, 0) := by unfold partS; rw [if_pos hg, if_pos hr]
theorem partS_bad {c : List (Int × Int)} {ls : List Int} (hg : ¬ goodS c = true) : partS c ls = (0, 31) := by unfold partS; rw [if_neg hg]
theorem okB_all {s : Scr} {o : List Nat} (h : ∀ f ∈ o, goodS (codeS s f) = true) : OkB s.funcs.length (bndS s o) := by
  have : ∀ (o : List Nat) (B : List Int), OkB s.funcs.length B → (∀ f ∈ o, goodS (codeS s f) = true) → OkB s.funcs.length (o.foldl (bstep s) B) := by
    intro o
    induction o with
    | nil => intro B hB _; exact hB
    | cons f o ih => intro B hB ho; exact ih _ (okB_step hB (ho f (by simp))) fun g hg => ho g (by simp [hg])
  exact this o _ (okB_start _) h
theorem code_len {s : Scr} (hr : s.right = true) (f : Nat) : (codeS s f).length ≤ 256 := by
  unfold codeS
  split
  · rename_i g hg
    exact ((right_calls hr).2.2 g (List.mem_of_getElem? hg)).1
  · simp
set_option maxRecDepth 100000 in
set_option maxHeartbeats 2000000 in
theorem funcs9_any (s : Scr) (V0 V1 : Value) (w : World) (hs : ScIs w.cell? s V0 V1) (hsf : s.fits) : Calls Tryz.prog 47 #[.agg #[V0, V1]] w (FunEnd (funS s) w) := by
  obtain ⟨⟨a0, c0, rfl, n0⟩, ⟨a1, c1, rfl, n1⟩⟩ := hs
  have b1 := (Below.refl _ w).alloc (Nat.le_refl _) (.cells #[.slice a0 s.consts.length c0, .slice a1 s.funcs.length c1] 27)
  have hG := order_any s _ _ (w.alloc (.cells #[.slice a0 s.consts.length c0, .slice a1 s.funcs.length c1] 27)) ⟨⟨a0, c0, rfl, n0.keep (below_keep b1)⟩, ⟨a1, c1, rfl, n1.keep (below_keep b1)⟩⟩ hsf
  have e0 := heap_alloc_new w (.cells #[.slice a0 s.consts.length c0, .slice a1 s.funcs.length c1] 27)
  by_cases hr : s.right = true
  · obtain ⟨r1, r2, r3⟩ := right_calls hr
    cases ho : ordS s.funcs.length (gF s) with
    | none =>
      have HG : Hid (Calls Tryz.prog 25 #[.agg #[.slice a0 s.consts.length c0, .slice a1 s.funcs.length c1]] (w.alloc (.cells #[.slice a0 s.consts.length c0, .slice a1 s.funcs.length c1] 27)) fun e w1 => e = .returned (.tuple #[.slice none 0 0, .int .i64 34]) ∧ Hid (FunEnd (funS s) w (.returned (.tuple #[.slice none 0 0, .int .i64 34])) w1)) := hid9 (hG.mono fun e w1 ⟨h1, h2⟩ => by
        rw [if_pos hr, ho] at h2
        exact ⟨h2, hid9 (by rw [fun_none hr ho]; exact ⟨none, 0, rfl, .inl rfl, b1.trans (h1.mono b1.size)⟩)⟩)
      generalize s.consts.length = cl at HG ⊢
      generalize s.funcs.length = fl at HG ⊢
      clear hG hr ho r1 r2 r3 n0 n1 hsf b1 e0
      go_enter Tryz.func47, Tryz.ntmps47
      go_wp2_with (first
        | (go_at_call 25; refine HG.out.mono ?_; clear HG; rintro e w1 ⟨rfl, HE⟩)
        | fail)
      go_ret2
      exact HE.out
    | some o =>
      obtain ⟨hol, hTo⟩ := ord_told (n := s.funcs.length) (g := gF s) ho
      have HG : Hid (Calls Tryz.prog 25 #[.agg #[.slice a0 s.consts.length c0, .slice a1 s.funcs.length c1]] (w.alloc (.cells #[.slice a0 s.consts.length c0, .slice a1 s.funcs.length c1] 27)) fun e w1 => ∃ oa oc, e = .returned (.tuple #[.slice oa s.funcs.length oc, .int .i64 0]) ∧ Hid (NsAt w1.cell? oa (rowI o) ∧ Below w.heap.size w w1 ∧ w1.heap[w.heap.size]? = some (.cells #[.slice a0 s.consts.length c0, .slice a1 s.funcs.length c1] 27 (0, 0)))) := hid9 (hG.mono fun e w1 ⟨h1, h2⟩ => by
        rw [if_pos hr, ho] at h2
        obtain ⟨oa, oc, e1, h3⟩ := h2
        rw [hol] at e1
        exact ⟨oa, oc, e1, hid9 ⟨h3, b1.trans (h1.mono b1.size), (h1.block _ (heap_lt e0)).trans e0⟩⟩)
      have HFn : Hid (∀ W, Below w.heap.size w W → ∀ f < s.funcs.length, ∃ fb fo ca cc, a1 = some ⟨fb, fo, none⟩ ∧ W.cell? ⟨fb, fo + f * 4 + 3, none⟩ = some (.slice ca (codeS s f).length cc) ∧ IsAt W.cell? ca (codeS s f)) := hid9 fun W hW f hf => code_at (n1.keep (below_keep hW)) hf
      have HMk : Hid (∀ W : World, ∃ W2, (Instr.makeSlice 28 (.int .i64 (s.funcs.length : Int)) (.int .i64 (s.funcs.length : Int))).run Tryz.prog W = .ok (.slice (some ⟨W.heap.size, 0, none⟩) s.funcs.length s.funcs.length) W2 ∧ Fill W2 W.heap.size 3 s.funcs.length (fun _ => .int .i64 0) ∧ Below W.heap.size W W2) := hid9 fun W => made8 W 28 3 (.int .i64 0) 8 s.funcs.length Tryz.underlying28 (by kernel_rfl) rfl (by omega) (by omega)
      obtain ⟨fl, hfe⟩ : ∃ fl, fl = s.funcs.length := ⟨_, rfl⟩
      have HFl := hid9 hfe
      rw [← hfe] at HG HMk HFn r1 r2 ⊢
      have HT := hid9 (And.intro hol hTo)
      have HR := hid9 hr
      have HO := hid9 ho
      generalize s.consts.length = cl at HG ⊢
      clear hG hr ho r3 n0 n1 hsf b1 e0 hol hTo hfe
      go_enter Tryz.func47, Tryz.ntmps47
      go_wp2_with (first
        | (go_at_call 25; refine HG.out.mono ?_; clear HG; rintro e w1 ⟨oa, oc, rfl, H1⟩; obtain ⟨w2, hm2, F2, b2⟩ := HMk.out w1; have hF2 := hid9 (And.intro F2 b2); clear HMk F2 b2)
        | fail)
      clear hm2
      have HB0 : Hid (FillB w2 w1.heap.size (bndS s (o.take 0)) ∧ Below w1.heap.size w1 w2 ∧ ∀ f ∈ o.take 0, goodS (codeS s f) = true) := hid9 ⟨by
        have h := hF2.out.1
        rw [HFl.out] at h
        unfold FillB bndS
        rw [List.take_zero, List.foldl_nil, List.length_replicate]
        exact h.congr fun j hj => by simp [List.getD, hj], hF2.out.2, fun f hf => by simp at hf⟩
      clear hF2
      go_loopw [22] (fun iv wr => ∃ k : Nat, iv = .int .i64 k ∧ k ≤ fl ∧ Hid (FillB wr w1.heap.size (bndS s (o.take k)) ∧ Below w1.heap.size w1 wr ∧ ∀ f ∈ o.take k, goodS (codeS s f) = true)) (fun iv _ => fl - (intOf iv).toNat)
      case atStart => exact ⟨0, rfl, Nat.zero_le _, HB0⟩
      case round =>
        obtain ⟨k, rfl, hk, HL⟩ := hrel
        clear HB0
        have HBw : Hid (Below w.heap.size w wr) := hid9 (H1.out.2.1.trans (HL.out.2.1.mono H1.out.2.1.size))
        have hbox : wr.heap[w.heap.size]? = some (.cells #[.slice a0 cl c0, .slice a1 fl c1] 27 (0, 0)) := (HL.out.2.1.block _ (heap_lt H1.out.2.2)).trans H1.out.2.2
        have x1 : wr.cell? ⟨w.heap.size, 1, none⟩ = some (.slice a1 fl c1) := Lib.cell_of_heap hbox 1
        by_cases hlt : k < fl
        · have hko : k < o.length := by rw [HT.out.1, ← HFl.out]; exact hlt
          obtain ⟨f, hfe⟩ : ∃ f, f = o[k] := ⟨_, rfl⟩
          have hf : f < fl := by rw [HFl.out, hfe]; exact (HT.out.2 k hko).1
          obtain ⟨ob, oo, eoa, q0⟩ : ∃ ob oo, oa = some ⟨ob, oo, none⟩ ∧ wr.cell? ⟨ob, oo + k, none⟩ = some (.int .i64 (f : Int)) := by
            rcases H1.out.1.keep (below_keep HL.out.2.1) with h | ⟨b, oo, e, h⟩
            · have : (rowI o).length = 0 := by rw [h]; rfl
              simp [rowI] at this
              rw [this] at hko; cases hko
            · have := h k (by simp [rowI]; exact hko)
              refine ⟨b, oo, e, ?_⟩
              rw [this, hfe]
              simp [rowI]
          subst eoa
          obtain ⟨fb, fo, ca, cc, ea, q1, q2⟩ := HFn.out wr HBw.out f hf
          subst ea
          have HT1 : Hid (o.take (k + 1) = o.take k ++ [f]) := hid9 (by rw [List.take_succ_eq_append_getElem hko, hfe])
          obtain ⟨B, hB⟩ : ∃ B, B = bndS s (o.take k) := ⟨_, rfl⟩
          have hBl : B.length = fl := by rw [hB, bnd_len, ← HFl.out]
          have HOk : Hid (OkB fl B) := hid9 (by rw [hB, HFl.out]; exact okB_all HL.out.2.2)
          have HRt : Hid (rightB (codeS s f) B = true) := hid9 (right_part HR.out (by rw [← HFl.out]; exact hf) (by rw [← HFl.out]; exact HOk.out))
          have HCl : Hid ((codeS s f).length ≤ 256) := hid9 (code_len HR.out f)
          have HFB : Hid (FillB wr w1.heap.size B) := hid9 (by rw [hB]; exact HL.out.1)
          have HP : Hid (Calls Tryz.prog 92 #[.slice ca (codeS s f).length cc, .slice (some ⟨w1.heap.size, 0, none⟩) fl fl] wr fun e W => e = .returned (.tuple #[.int .i64 ((partS (codeS s f) B).1 : Nat), .int .i64 (partS (codeS s f) B).2]) ∧ (∃ u, W.cell? ⟨w1.heap.size, f, none⟩ = some u) ∧ W.frozen? ⟨w1.heap.size, f, none⟩ = false ∧ Hid (FillB W w1.heap.size B ∧ Below w1.heap.size w1 W)) := hid9 (by
            have := part9_any (codeS s f) B ca (some ⟨w1.heap.size, 0, none⟩) cc fl (by have := HCl.out; omega) (by omega) wr q2 HFB.out.ns
            rw [hBl] at this
            refine this.mono fun e W ⟨h1, h2⟩ => ?_
            have hF : FillB W w1.heap.size B := Fill.keep HFB.out (h2.block _ (Fill.lt HFB.out))
            exact ⟨h1, ⟨_, Fill.cell hF (by rw [hBl]; exact hf)⟩, Fill.frozen hF f, hid9 ⟨hF, HL.out.2.1.trans (h2.mono HL.out.2.1.size)⟩⟩)
          by_cases hg : goodS (codeS s f) = true
          · have HL2 : Hid (∀ W, FillB W w1.heap.size B ∧ Below w1.heap.size w1 W → FillB (W.setCell ⟨w1.heap.size, f, none⟩ (.int .i64 ((gasS B (codeS s f) : Nat) : Int))) w1.heap.size (bndS s (o.take (k + 1))) ∧ Below w1.heap.size w1 (W.setCell ⟨w1.heap.size, f, none⟩ (.int .i64 ((gasS B (codeS s f) : Nat) : Int))) ∧ ∀ g ∈ o.take (k + 1), goodS (codeS s g) = true) := hid9 fun W hW => by
              rw [HT1.out, bnd_snoc, ← hB]
              refine ⟨hW.1.step f _ (by rw [hBl]; exact hf), hW.2.setCell (p := ⟨w1.heap.size, f, none⟩) (Nat.le_refl _) _, fun g hgm => ?_⟩
              rcases List.mem_append.1 hgm with h | h
              · exact HL.out.2.2 g h
              · rw [List.mem_singleton.1 h]; exact hg
            rw [partS_good hg HRt.out] at HP
            simp only at HP
            generalize gasS B (codeS s f) = gv at *
            generalize (codeS s f).length = cln at *
            clear HL HFB HOk HRt HCl HFn H1 HBw HT1 q2 hbox hfe hB
            go_wp2_with (first
              | (go_at_call 92; refine HP.out.mono ?_; clear HP; rintro e w5 ⟨rfl, ⟨u, g5⟩, f5, HW⟩)
              | fail)
            exact ⟨⟨k + 1, by go_num, by omega, hid9 (HL2.out _ HW.out)⟩, by simp [intOf]; omega⟩
          · have HE : Hid (∀ W, Below w1.heap.size w1 W → FunEnd (funS s) w (.returned (.tuple #[.slice none 0 0, .int .i64 31])) W) := hid9 fun W hW => by
              rw [fun_bad HR.out HO.out (fun h => hg (code_good h f))]
              exact ⟨none, 0, rfl, .inl rfl, H1.out.2.1.trans (hW.mono H1.out.2.1.size)⟩
            rw [partS_bad hg] at HP
            simp only at HP
            generalize (codeS s f).length = cln at *
            clear HL HFB HOk HRt HCl HFn H1 HBw HT1 q2 hbox hfe hB
            go_wp2_with (first
              | (go_at_call 92; refine HP.out.mono ?_; clear HP; rintro e w5 ⟨rfl, ⟨u, g5⟩, f5, HW⟩)
              | fail)
            go_ret2
            exact HE.out _ (HW.out.2.setCell (p := ⟨w1.heap.size, f, none⟩) (Nat.le_refl _) _)
        · have e : k = fl := by omega
          subst e
          have HE : Hid (FunEnd (funS s) w (.returned (.tuple #[.slice (some ⟨w1.heap.size, 0, none⟩) k k, .int .i64 0])) wr) := hid9 (by
            have hta : o.take k = o := by rw [HFl.out, ← HT.out.1, List.take_length]
            have hA : allGood s = true := by
              apply Classical.byContradiction
              intro h
              obtain ⟨f, hf, hb⟩ := bad_at HO.out h
              exact hb (HL.out.2.2 f (by rw [hta]; exact hf))
            rw [fun_good HR.out HO.out hA]
            have h := HL.out.1
            rw [hta] at h
            exact ⟨_, k, by rw [show (0, bndS s o).2.length = k by rw [HFl.out]; exact bnd_len s o], h.ns, HBw.out⟩)
          clear HL H1 HFn HBw hbox
          go_wp2_with fail
          go_ret2
          exact HE.out
  · have HG : Hid (Calls Tryz.prog 25 #[.agg #[.slice a0 s.consts.length c0, .slice a1 s.funcs.length c1]] (w.alloc (.cells #[.slice a0 s.consts.length c0, .slice a1 s.funcs.length c1] 27)) fun e w1 => e = .returned (.tuple #[.slice none 0 0, .int .i64 30]) ∧ Hid (FunEnd (funS s) w (.returned (.tuple #[.slice none 0 0, .int .i64 30])) w1)) := hid9 (hG.mono fun e w1 ⟨h1, h2⟩ => by
      rw [if_neg hr] at h2
      exact ⟨h2, hid9 (by rw [fun_no hr]; exact ⟨none, 0, rfl, .inl rfl, b1.trans (h1.mono b1.size)⟩)⟩)
    generalize s.consts.length = cl at HG ⊢
    generalize s.funcs.length = fl at HG ⊢
    clear hG hr n0 n1 hsf b1 e0
    go_enter Tryz.func47, Tryz.ntmps47
    go_wp2_with (first
      | (go_at_call 25; refine HG.out.mono ?_; clear HG; rintro e w1 ⟨rfl, HE⟩)
      | fail)
    go_ret2
    exact HE.out
end Go.Proofs.YtfnpngbcnmglfaaGreat
namespace Go.Proofs.YtfnpngbcnmglfaaGreat
open Go.RowKit
theorem fun_err (s : Scr) : ((funS s).1 = 0 ∧ (funS s).2.length = s.funcs.length ∧ s.right = true ∧ 1 ≤ s.funcs.length ∧ ∀ z ∈ (funS s).2, 0 ≤ z ∧ z ≤ 1048577) ∨ (((funS s).1 = 30 ∨ (funS s).1 = 31 ∨ (funS s).1 = 34) ∧ (funS s).2 = []) := by
  by_cases hr : s.right = true
  · cases ho : ordS s.funcs.length (gF s) with
    | none => rw [fun_none hr ho]; exact .inr ⟨.inr (.inr rfl), rfl⟩
    | some o =>
      by_cases hg : allGood s = true
      · rw [fun_good hr ho hg]
        exact .inl ⟨rfl, bnd_len s o, hr, (right_calls hr).2.1, (okB_all fun f _ => code_good hg f).2⟩
      · rw [fun_bad hr ho hg]; exact .inr ⟨.inr (.inl rfl), rfl⟩
  · rw [fun_no hr]; exact .inr ⟨.inl rfl, rfl⟩
def TotEnd (s : Scr) (w : World) (e : Ending) (w' : World) : Prop := e = .returned (.tuple #[.int .i64 (totS s).2, .int .i64 (totS s).1]) ∧ Below w.heap.size w w'
set_option maxRecDepth 100000 in
set_option maxHeartbeats 2000000 in
theorem total9_any (s : Scr) (V0 V1 : Value) (w : World) (hs : ScIs w.cell? s V0 V1) (hsf : s.fits) : Calls Tryz.prog 26 #[.agg #[V0, V1]] w (TotEnd s w) := by
  obtain ⟨⟨a0, c0, rfl, n0⟩, ⟨a1, c1, rfl, n1⟩⟩ := hs
  have b1 := (Below.refl _ w).alloc (Nat.le_refl _) (.cells #[.slice a0 s.consts.length c0, .slice a1 s.funcs.length c1] 27)
  have hG := funcs9_any s _ _ (w.alloc (.cells #[.slice a0 s.consts.length c0, .slice a1 s.funcs.length c1] 27)) ⟨⟨a0, c0, rfl, n0.keep (below_keep b1)⟩, ⟨a1, c1, rfl, n1.keep (below_keep b1)⟩⟩ hsf
  have HT : Hid (totS s = if (funS s).1 = 0 then (if 1048576 < (funS s).2.getD 0 0 then (35, 0) else (0, (funS s).2.getD 0 0)) else ((funS s).1, 0)) := hid9 rfl
  unfold TotEnd
  generalize totS s = T at *
  rcases fun_err s with ⟨h0, h1, _, h3, _⟩ | ⟨h0, h1⟩
  · have HG : Hid (Calls Tryz.prog 47 #[.agg #[.slice a0 s.consts.length c0, .slice a1 s.funcs.length c1]] (w.alloc (.cells #[.slice a0 s.consts.length c0, .slice a1 s.funcs.length c1] 27)) fun e w1 => ∃ fa fc, e = .returned (.tuple #[.slice (some fa) s.funcs.length fc, .int .i64 0]) ∧ fa.spot = none ∧ w1.cell? ⟨fa.block, fa.off, none⟩ = some (.int .i64 ((funS s).2.getD 0 0)) ∧ Hid (Below w.heap.size w w1)) := hid9 (hG.mono fun e w1 ⟨a, c, e1, h4, h5⟩ => by
      rw [h0, h1] at e1
      rcases h4 with h4 | ⟨b, off, rfl, h4⟩
      · rw [h4] at h1; simp at h1; omega
      · refine ⟨⟨b, off, none⟩, c, e1, rfl, ?_, hid9 (b1.trans (h5.mono b1.size))⟩
        have := h4 0 (by omega)
        rw [Nat.add_zero] at this
        rw [this]
        simp [List.getD, show 0 < (funS s).2.length by omega])
    rw [h0] at HT
    have HT2 : Hid ((1048576 < (funS s).2.getD 0 0 → T = (35, 0)) ∧ (¬ 1048576 < (funS s).2.getD 0 0 → T = (0, (funS s).2.getD 0 0))) := hid9 ⟨fun h => by rw [HT.out, if_pos rfl, if_pos h], fun h => by rw [HT.out, if_pos rfl, if_neg h]⟩
    clear HT hG n0 n1 hsf h0 h1 b1
    generalize s.consts.length = cl at *
    obtain ⟨fl, hfl⟩ : ∃ fl, fl = s.funcs.length := ⟨_, rfl⟩
    rw [← hfl] at h3 HG ⊢
    generalize (funS s).2.getD 0 0 = v at *
    clear hfl
    by_cases hv : 1048576 < v
    · rw [HT2.out.1 hv]
      go_enter Tryz.func26, Tryz.ntmps26
      go_wp2_with (first
        | (go_at_call 47; refine HG.out.mono ?_; clear HG; rintro e w1 ⟨⟨fb, fo, sp⟩, fc, rfl, rfl, g0, HB⟩)
        | fail)
      go_ret2
      exact ⟨rfl, HB.out⟩
    · rw [HT2.out.2 hv]
      have hv2 : v ≤ 1048576 := by omega
      go_enter Tryz.func26, Tryz.ntmps26
      go_wp2_with (first
        | (go_at_call 47; refine HG.out.mono ?_; clear HG; rintro e w1 ⟨⟨fb, fo, sp⟩, fc, rfl, rfl, g0, HB⟩)
        | fail)
      go_ret2
      exact ⟨rfl, HB.out⟩
  · have hne : ¬ (funS s).1 = 0 := by omega
    have HT2 : Hid (T = ((funS s).1, 0)) := hid9 (by rw [HT.out, if_neg hne])
    have HG : Hid (Calls Tryz.prog 47 #[.agg #[.slice a0 s.consts.length c0, .slice a1 s.funcs.length c1]] (w.alloc (.cells #[.slice a0 s.consts.length c0, .slice a1 s.funcs.length c1] 27)) fun e w1 => ∃ fa fc, e = .returned (.tuple #[.slice fa 0 fc, .int .i64 (funS s).1]) ∧ Hid (Below w.heap.size w w1)) := hid9 (hG.mono fun e w1 ⟨a, c, e1, h4, h5⟩ => ⟨a, c, by rw [h1] at e1; exact e1, hid9 (b1.trans (h5.mono b1.size))⟩)
    rw [HT2.out]
    clear HT HT2 hG n0 n1 hsf h0 h1 b1
    have hnb : ((funS s).1 != 0) = true := by simpa using hne
    generalize s.consts.length = cl at *
    generalize s.funcs.length = fl at *
    generalize (funS s).1 = er at *
    go_enter Tryz.func26, Tryz.ntmps26
    go_wp2_with (first
      | (go_at_call 47; refine HG.out.mono ?_; clear HG; rintro e w1 ⟨fa, fc, rfl, HB⟩)
      | fail)
    go_ret2
    exact ⟨rfl, HB.out⟩
end Go.Proofs.YtfnpngbcnmglfaaGreat
namespace Go.Proofs.YtfnpngbcnmglfaaGreat
open Go.RowKit
/-- The seven steps. -/
def stepV (sb pb : Nat) : List Value := [.func (.func 63) #[] #[.pointer (some ⟨sb, 0, none⟩), .pointer (some ⟨pb, 0, none⟩)], .func (.func 65) #[] #[.pointer (some ⟨sb, 0, none⟩), .pointer (some ⟨pb, 0, none⟩)], .func (.func 66) #[] #[.pointer (some ⟨sb, 0, none⟩), .pointer (some ⟨pb, 0, none⟩)], .func (.func 67) #[] #[.pointer (some ⟨sb, 0, none⟩), .pointer (some ⟨pb, 0, none⟩)], .func (.func 68) #[] #[.pointer (some ⟨sb, 0, none⟩), .pointer (some ⟨pb, 0, none⟩)], .func (.func 70) #[] #[.pointer (some ⟨sb, 0, none⟩), .pointer (some ⟨pb, 0, none⟩)], .func (.func 71) #[] #[.pointer (some ⟨pb, 0, none⟩)]]
set_option maxRecDepth 100000 in
set_option maxHeartbeats 2000000 in
theorem steps_any (V0 V1 : Value) (db : Nat) (w : World) : Calls Tryz.prog 32 #[.agg #[V0, V1], .pointer (some ⟨db, 0, none⟩)] w fun e w' => e = .returned (.slice (some ⟨w.heap.size + 1 + 1, 0, none⟩) 7 7) ∧ w' = ((w.alloc (.cells #[V0, V1] 27)).alloc (.cells #[.pointer (some ⟨db, 0, none⟩)] 73)).alloc (.cells (stepV w.heap.size (w.heap.size + 1)).toArray 74) := by
  have hsf : ∀ (W : World) (a : Addr) (q : Go.Fn) (x y : Array Value), (store a (.func q x y)).run Tryz.prog W = stored Tryz.prog W a (.func q x y) _ := fun W a q x y => run_store Tryz.prog W a _ _ rfl
  go_enter Tryz.func32, Tryz.ntmps32
  go_wp2_with fail
  go_ret
  exact ⟨rfl, rfl⟩
/-- Nothing beside block b is changed. -/
def OffK (b : Nat) (W W' : World) : Prop := W.heap.size ≤ W'.heap.size ∧ ∀ g, g < W.heap.size → g ≠ b → W'.heap[g]? = W.heap[g]?
theorem OffK.refl (b : Nat) (W : World) : OffK b W W := ⟨Nat.le_refl _, fun _ _ _ => rfl⟩
theorem OffK.trans {b : Nat} {W W1 W2 : World} (h : OffK b W W1) (k : OffK b W1 W2) : OffK b W W2 := ⟨Nat.le_trans h.1 k.1, fun g hg hb => (k.2 g (by have := h.1; omega) hb).trans (h.2 g hg hb)⟩
theorem OffK.of {b : Nat} {W W' : World} (h : Below W.heap.size W W') : OffK b W W' := ⟨h.size, fun g hg _ => h.block g hg⟩
theorem OffK.set (W : World) (b i : Nat) (v : Value) : OffK b W (W.setCell ⟨b, i, none⟩ v) := ⟨by simp, fun g _ hb => heap_setCell_other W ⟨b, i, none⟩ g v (fun e => hb e)⟩
theorem offB_keep {b : Nat} {W W' : World} (h : OffK b W W') : ∀ a v, offB b W a = some v → offB b W' a = some v := fun a v ha => by
  obtain ⟨h1, h2⟩ := offB_of ha
  have h3 := h.2 _ (World.block_lt_of_cell? _ _ h2) h1
  unfold offB
  rw [if_neg h1]
  rw [← h2]
  unfold World.cell?
  simp only [h3]
theorem offB_low {b : Nat} {W : World} (hb : W.heap.size ≤ b) : ∀ a v, W.cell? a = some v → offB b W a = some v := fun a v h => by
  have := World.block_lt_of_cell? _ _ h
  unfold offB
  rw [if_neg (by omega)]
  exact h
theorem cell_setCell_other9 {W : World} {b i g o : Nat} {u v : Value} (h : W.cell? ⟨g, o, none⟩ = some u) (hne : ¬ (g = b ∧ o = i)) : (W.setCell ⟨b, i, none⟩ v).cell? ⟨g, o, none⟩ = some u := by
  rw [World.cell?_setCell_other _ _ _ _ (fun e => hne (by cases e; exact ⟨rfl, rfl⟩))]
  exact h
/-- Where the steps stand: the draft d in its box holds D; the script, and the pointer to d, lie in theirs. -/
structure St10 (w : World) (db sb pb : Nat) (V0 V1 : Value) (D : List Value) (W : World) : Prop where
  low : Below w.heap.size w W
  d : W.heap[db]? = some (.cells D.toArray 70 (0, 0))
  s : W.heap[sb]? = some (.cells #[V0, V1] 27 (0, 0))
  p : W.heap[pb]? = some (.cells #[.pointer (some ⟨db, 0, none⟩)] 73 (0, 0))
  g : W.heap[pb + 1]? = some (.cells (stepV sb pb).toArray 74 (0, 0))
  hb : w.heap.size ≤ db
  ne : sb ≠ db ∧ pb ≠ db ∧ pb + 1 ≠ db
theorem St10.off {w : World} {db sb pb : Nat} {V0 V1 : Value} {D : List Value} {W W' : World} (h : St10 w db sb pb V0 V1 D W) (k : Below W.heap.size W W') : St10 w db sb pb V0 V1 D W' :=
  ⟨h.low.trans (k.mono h.low.size), (k.block _ (heap_lt h.d)).trans h.d, (k.block _ (heap_lt h.s)).trans h.s, (k.block _ (heap_lt h.p)).trans h.p, (k.block _ (heap_lt h.g)).trans h.g, h.hb, h.ne⟩
theorem St10.set {w : World} {db sb pb : Nat} {V0 V1 : Value} {D : List Value} {W : World} (h : St10 w db sb pb V0 V1 D W) (i : Nat) (v : Value) : St10 w db sb pb V0 V1 (D.set i v) (W.setCell ⟨db, i, none⟩ v) := by
  have o := OffK.set W db i v
  refine ⟨h.low.setCell (p := ⟨db, i, none⟩) h.hb v, ?_, (o.2 _ (heap_lt h.s) h.ne.1).trans h.s, (o.2 _ (heap_lt h.p) h.ne.2.1).trans h.p, (o.2 _ (heap_lt h.g) h.ne.2.2).trans h.g, h.hb, h.ne⟩
  have := heap_setCell_same W db i D.toArray 70 v h.d
  rw [this]
  simp
theorem St10.cells {w : World} {db sb pb : Nat} {V0 V1 : Value} {D : List Value} {W : World} (h : St10 w db sb pb V0 V1 D W) : W.cell? ⟨sb, 0, none⟩ = some V0 ∧ W.cell? ⟨sb, 1, none⟩ = some V1 ∧ W.cell? ⟨pb, 0, none⟩ = some (.pointer (some ⟨db, 0, none⟩)) := ⟨Lib.cell_of_heap h.s 0, Lib.cell_of_heap h.s 1, Lib.cell_of_heap h.p 0⟩
theorem St10.at {w : World} {db sb pb : Nat} {V0 V1 : Value} {D : List Value} {W : World} (h : St10 w db sb pb V0 V1 D W) {i : Nat} {v : Value} (hv : D[i]? = some v) : W.cell? ⟨db, i, none⟩ = some v := by
  rw [Lib.cell_of_heap h.d]; simpa using hv
/-- A row of numbers is kept where a cell that holds no number is written. -/
theorem ns_set {W : World} {b i : Nat} {u v : Value} {a : Option Addr} {ns : List Int} (h : NsAt W.cell? a ns) (hu : W.cell? ⟨b, i, none⟩ = some u) (hn : ∀ z, u ≠ .int .i64 z) : NsAt (W.setCell ⟨b, i, none⟩ v).cell? a ns := by
  rcases h with h | ⟨g, off, rfl, h⟩
  · exact .inl h
  · refine .inr ⟨g, off, rfl, fun j hj => ?_⟩
    have hc := h j hj
    by_cases e : g = b ∧ off + j = i
    · obtain ⟨rfl, rfl⟩ := e
      rw [hc] at hu
      exact absurd (Option.some.inj hu).symm (hn _)
    · exact cell_setCell_other9 hc e
theorem St10.fz {w : World} {db sb pb : Nat} {V0 V1 : Value} {D : List Value} {W : World} (h : St10 w db sb pb V0 V1 D W) (i : Nat) : W.frozen? ⟨db, i, none⟩ = false := Lib.frozen_of_heap h.d i
end Go.Proofs.YtfnpngbcnmglfaaGreat
