/- Layer 15: a crash of a file. -/
import Derived.Test.YthmjejmignangaaGreatDoorEH
namespace Go.Proofs.YthmjejmignangaaGreatDoor
open Go.RowKit
/-- Numbers that came in, at v. -/
def Fat (w : World) (v : Value) (l : List Int) : Prop := ∃ a c, v = .slice a l.length c ∧ l.length ≤ c ∧ c ≤ 4611686018427387904 ∧ (l = [] ∨ ∃ b o, a = some ⟨b, o, none⟩ ∧ ∀ j (h : j < l.length), w.cell? ⟨b, o + j, none⟩ = some (.int .i64 l[j]))
/-- .. outside of these blocks. -/
def FatO (S : Nat → Prop) (w : World) (v : Value) (l : List Int) : Prop := ∃ a c, v = .slice a l.length c ∧ l.length ≤ c ∧ c ≤ 4611686018427387904 ∧ (l = [] ∨ ∃ b o, a = some ⟨b, o, none⟩ ∧ ¬ S b ∧ ∀ j (h : j < l.length), w.cell? ⟨b, o + j, none⟩ = some (.int .i64 l[j]))
theorem FatO.kt {S : Nat → Prop} {w w' : World} {v : Value} {l : List Int} (h : FatO S w v l) (k : Kt S w w') : FatO S w' v l := by
  obtain ⟨a, c, e, h1, h2, h3⟩ := h
  refine ⟨a, c, e, h1, h2, ?_⟩
  rcases h3 with h3 | ⟨b, o, e1, e2, e3⟩
  · exact .inl h3
  · refine .inr ⟨b, o, e1, e2, fun j hj => ?_⟩
    have := e3 j hj
    exact (World.cell?_of_block (k.block b (World.block_lt_of_cell? _ _ this) e2)).trans this
/-- The first is taken. -/
theorem FatO.tail {S : Nat → Prop} {w : World} {a : Option Addr} {n c : Nat} {x : Int} {l : List Int} (h : FatO S w (.slice a n c) (x :: l)) : ∃ b o, a = some ⟨b, o, none⟩ ∧ n = l.length + 1 ∧ l.length + 1 ≤ c ∧ c ≤ 4611686018427387904 ∧ w.cell? ⟨b, o, none⟩ = some (.int .i64 x) ∧ FatO S w (.slice (some ⟨b, if c = 1 then o else o + 1, none⟩) l.length (c - 1)) l := by
  obtain ⟨a', c', e, h1, h2, h3⟩ := h
  injection e with e1 e2 e3
  subst e1; subst e3
  rcases h3 with h3 | ⟨b, o, e1, e5, e4⟩
  · cases h3
  · simp only [List.length_cons] at e2 h1
    refine ⟨b, o, e1, e2, h1, h2, by have := e4 0 (by simp); simpa using this, _, _, rfl, by omega, by omega, ?_⟩
    cases l with
    | nil => exact .inl rfl
    | cons y l =>
      refine .inr ⟨b, _, rfl, e5, fun j hj => ?_⟩
      have hc : c ≠ 1 := by simp at h1; omega
      rw [if_neg hc]
      have := e4 (j + 1) (by simp at hj ⊢; omega)
      rw [show o + 1 + j = o + (j + 1) by omega]
      simpa using this
/-- While the fates are given: k sectors have theirs. -/
structure CrI (g : Fg) (f : Fl) (fates : List Int) (k : Nat) (fk : List Int) (done : List Sec) (w W : World) : Prop where
  len : done.length = k
  cr : crC f.cs fates = (done ++ (crC (f.cs.drop k) fk).1, (crC (f.cs.drop k) fk).2)
  row : W.ownsRow 0 76 2 g.sl f.cs.length (secCs (done ++ (f.cs.drop k).map Cl.s))
  map : MapS W g.mp f.cs.length f.wr
  box : W.heap[g.fb]? = some (.cells #[sv f.name, g.sl, .map g.mp] 116 (0, 0))
  kt : Kt g.has w W
theorem CrI.alloc {g : Fg} {f : Fl} {fates : List Int} {k : Nat} {fk : List Int} {done : List Sec} {w W : World} (h : CrI g f fates k fk done w W) (o : Obj) : CrI g f fates k fk done w (W.alloc o) :=
  ⟨h.len, h.cr, h.row.alloc o, h.map.keep fun b hb => Below.heap_alloc _ _ _ (h.map.lt b hb), (Below.heap_alloc _ _ _ (heap_ltb h.box)).trans h.box, h.kt.alloc o⟩
theorem crC_len (cs : List Cl) (f : List Int) : (crC cs f).1.length = cs.length := by
  induction cs generalizing f with
  | nil => rfl
  | cons c cs ih =>
    rw [crC]
    cases c.n with
    | none => simp [ih]
    | some x => cases f <;> simp [ih]
/-- One more has its fate; the row is as it was. -/
theorem CrI.stay {g : Fg} {f : Fl} {fates : List Int} {k : Nat} {fk fk' : List Int} {done : List Sec} {w W : World} (h : CrI g f fates k fk done w W) (c : Cl) (hc : f.cs[k]? = some c) (hx : crC (c :: f.cs.drop (k + 1)) fk = (c.s :: (crC (f.cs.drop (k + 1)) fk').1, (crC (f.cs.drop (k + 1)) fk').2)) : CrI g f fates (k + 1) fk' (done ++ [c.s]) w W := by
  have hk := (List.getElem?_eq_some_iff.1 hc).1
  have hd : f.cs.drop k = c :: f.cs.drop (k + 1) := by
    rw [List.drop_eq_getElem_cons hk]
    rw [List.getElem?_eq_getElem hk] at hc
    injection hc with hc
    rw [hc]
  refine ⟨by simp [h.len], ?_, ?_, h.map, h.box, h.kt⟩
  · rw [h.cr, hd, hx]
    simp
  · have := h.row
    rw [hd] at this
    simpa using this
/-- .. and is another one. -/
theorem CrI.put {g : Fg} {f : Fl} {fates : List Int} {k q cp : Nat} {fk fk' : List Int} {done : List Sec} {w W : World} (h : CrI g f fates k fk done w W) (c : Cl) (hc : f.cs[k]? = some c) (y : Sec) (hx : crC (c :: f.cs.drop (k + 1)) fk = (y :: (crC (f.cs.drop (k + 1)) fk').1, (crC (f.cs.drop (k + 1)) fk').2)) (e : g.sl = .slice (some ⟨q, 0, none⟩) f.cs.length cp) (a1 : q ≠ g.fb) (a3 : g.mp ≠ some q) : CrI g f fates (k + 1) fk' (done ++ [y]) w ((W.setCell ⟨q, k * 2, none⟩ (sv y.b)).setCell ⟨q, k * 2 + 1, none⟩ (.bool y.bad)) := by
  have hk := (List.getElem?_eq_some_iff.1 hc).1
  have hd : f.cs.drop k = c :: f.cs.drop (k + 1) := by
    rw [List.drop_eq_getElem_cons hk]
    rw [List.getElem?_eq_getElem hk] at hc
    injection hc with hc
    rw [hc]
  have r := h.row
  rw [e] at r
  obtain ⟨r2, r3⟩ := row_put r k y (by simp [h.len]; omega)
  refine ⟨by simp [h.len], ?_, ?_, h.map.keep fun b hb => r3.block b (h.map.lt b hb) (fun x => a3 (by rw [hb, x])), (r3.block _ (heap_ltb h.box) (fun x => a1 (by injection x with x; exact x.symm))).trans h.box, h.kt.trans (Kt.grown (S := fun i => i = q) r3 rfl) fun i _ x => .inr (.inl (by rw [e, x]; rfl))⟩
  · rw [h.cr, hd, hx]
    simp
  · rw [e]
    have e2 : (done ++ (f.cs.drop k).map Cl.s).set k y = done ++ [y] ++ (f.cs.drop (k + 1)).map Cl.s := by
      rw [hd, List.set_append_right _ _ (by rw [h.len]; exact Nat.le_refl _), h.len, Nat.sub_self, List.map_cons, List.set_cons_zero]
      simp
    rw [← e2]
    exact r2
theorem FMid.comp {g g1 : Fg} {f1 f2 : Fl} {w W W' : World} (h : FMid g g1 f1 w W) (k : FEnd g1 f2 W W') : FEnd g f2 w W' := by
  obtain ⟨g2, k⟩ := k
  refine ⟨g2, k.at_, k.fb.trans h.fb, fun i hi => ?_, h.kts k.kt⟩
  rcases k.has i hi with x | x
  · exact h.has i x
  · exact .inr (Nat.le_trans h.kt.size x)
/-- All have their fates. -/
theorem CrI.fin {g : Fg} {f : Fl} {fates : List Int} {k : Nat} {fk : List Int} {done : List Sec} {w W : World} (h : CrI g f fates k fk done w W) (hF : FlAt w g f) (hk : f.cs.length ≤ k) : done = (crC f.cs fates).1 ∧ fk = (crF f fates).2 ∧ FMid g ⟨g.fb, g.sl, none⟩ ⟨f.name, done.map mkC⟩ w (W.setCell ⟨g.fb, 2, none⟩ (.map none)) := by
  have hd : f.cs.drop k = [] := List.drop_eq_nil_of_le hk
  have hc := h.cr
  rw [hd] at hc
  have e1 : done = (crC f.cs fates).1 := by rw [hc]; simp [crC]
  have e2 : fk = (crF f fates).2 := by show fk = (crC f.cs fates).2; rw [hc]; rfl
  have hl : done.length = f.cs.length := by rw [e1, crC_len]
  refine ⟨e1, e2, (FMid.start hF).wipe (W' := W) done hl ?_ h.box h.kt⟩
  have := h.row
  rw [hd, List.map_nil, List.append_nil] at this
  rw [hl]
  exact this
theorem fate3 (n : Int) : fateN n = 0 ∨ fateN n = 1 ∨ fateN n = 2 := by unfold fateN; omega
set_option maxRecDepth 100000 in
set_option maxHeartbeats 2000000 in
theorem crash15_any (w : World) (g : Fg) (f : Fl) (h : FlAt w g f) (S : Nat → Prop) (hS : ∀ k, g.has k → S k) (v : Value) (fates : List Int) (hv : FatO S w v fates) : Calls Tryz.prog 44 #[.pointer (some ⟨g.fb, 1, none⟩), v] w fun e w' => ∃ v', e = .returned v' ∧ Hid (FatO S w' v' (crF f fates).2 ∧ FEnd g (crF f fates).1 w w') := by
  obtain ⟨a, c, e, h1, h2⟩ := h.form
  have hl := h.len
  have c1 := h.c1
  rw [e] at c1
  obtain ⟨va, vc, rfl, hv1, hv2, hv3⟩ := hv
  have H0 : Hid (CrI g f fates 0 fates [] w w ∧ FatO S w (.slice va fates.length vc) fates) := hidb ⟨⟨rfl, by simp, by simpa [Fl.sure] using h.row, h.map, h.box, Kt.refl _ _⟩, va, vc, rfl, hv1, hv2, hv3⟩
  have HF := hidb h
  have HSS := hidb hS
  clear hS
  obtain ⟨n, hn⟩ : ∃ n, n = f.cs.length := ⟨_, rfl⟩
  rw [← hn] at hl h1 c1
  have HN := hidb hn
  clear h hv3 hn
  go_enter Tryz.func44, Tryz.ntmps44
  go_wp2_with fail
  go_loopw [1, 14] (fun fv iv wr => ∃ (k : Nat) (fa : Option Addr) (fl fc : Nat), fv = .slice fa fl fc ∧ iv = .int .i64 k ∧ k ≤ n ∧ Hid (∃ fk done, CrI g f fates k fk done w wr ∧ FatO S wr (.slice fa fl fc) fk)) (fun _ iv _ => n - (intOf iv).toNat)
  case atStart => exact ⟨0, va, _, vc, rfl, rfl, Nat.zero_le _, hidb ⟨fates, [], H0.out⟩⟩
  case round =>
    clear H0 c1
    obtain ⟨k, fa, fl, fc, rfl, rfl, hk, HI⟩ := hrel
    obtain ⟨fk, done, I, FT⟩ := HI.out
    have b1 := Lib.cell_of_heap I.box 1
    have b2 := Lib.cell_of_heap I.box 2
    have bf := Lib.frozen_of_heap I.box 2
    simp at b1 b2
    have hbl := heap_ltb I.box
    by_cases hlt : k < n
    · have hkc : k < f.cs.length := by rw [← HN.out]; exact hlt
      have hc : f.cs[k]? = some f.cs[k] := List.getElem?_eq_getElem hkc
      have hlk := I.map.look k (by omega)
      have hwk : f.wr k = f.cs[k].n := by rw [wr_nth, hc]; rfl
      rw [hwk] at hlk
      cases hcn : f.cs[k].n with
      | none =>
        rw [hcn] at hlk
        have HI2 : Hid (∃ fk done, CrI g f fates (k + 1) fk done w (wr.alloc (.cells #[.string ⟨#[]⟩, .bool false] 76)) ∧ FatO S (wr.alloc (.cells #[.string ⟨#[]⟩, .bool false] 76)) (.slice fa fl fc) fk) := hidb ⟨fk, _, ((I.stay f.cs[k] hc (by rw [crC, hcn]))).alloc _, FT.kt ((Kt.refl _ _).alloc _)⟩
        have hlk2 : (Instr.lookup 112 (.map g.mp) (.int .i64 k) true).run Tryz.prog wr = .ok (.tuple #[.agg #[.string ⟨#[]⟩, .bool false], .bool false]) wr := hlk
        clear HI I FT hlk hcn hwk hc
        generalize g.mp = mp at *
        go_wp2_with fail
        refine ⟨⟨k + 1, fa, fl, fc, rfl, by go_num, by omega, HI2⟩, by simp [intOf]; omega⟩
      | some x =>
        rw [hcn] at hlk
        have hlk2 : (Instr.lookup 112 (.map g.mp) (.int .i64 k) true).run Tryz.prog wr = .ok (.tuple #[.agg #[sv x.b, .bool x.bad], .bool true]) wr := hlk
        obtain ⟨W4, hW4⟩ : ∃ W4, W4 = wr.alloc (.cells #[sv x.b, .bool x.bad] 76) := ⟨_, rfl⟩
        have I4 : CrI g f fates k fk done w W4 := by rw [hW4]; exact I.alloc _
        have FT4 : FatO S W4 (.slice fa fl fc) fk := by rw [hW4]; exact FT.kt ((Kt.refl _ _).alloc _)
        have hx4 : W4.heap[wr.heap.size]? = some (.cells #[sv x.b, .bool x.bad] 76 (0, 0)) := by rw [hW4]; exact heap_alloc_new wr _
        cases fk with
        | nil =>
          have hfl : fl = 0 := by obtain ⟨a', c', e', _⟩ := FT; injection e' with _ e' _
          have HI2 : Hid (∃ fk done, CrI g f fates (k + 1) fk done w W4 ∧ FatO S W4 (.slice fa fl fc) fk) := hidb ⟨[], _, I4.stay f.cs[k] hc (by rw [crC, hcn]), FT4⟩
          clear HI I FT hlk hcn hwk hc I4 FT4 hx4
          generalize g.mp = mp at *
          subst hfl
          go_wp2_with fail
          rw [← hW4]
          refine ⟨⟨k + 1, fa, 0, fc, rfl, by go_num, by omega, HI2⟩, by simp [intOf]; omega⟩
        | cons y fk =>
          obtain ⟨fb, fo, rfl, rfl, hf1, hf2, hf3, HT⟩ := FT.tail
          have HT := hidb HT
          have FT4b := FT4.tail
          obtain ⟨fb', fo', ee, _, _, _, hf4, HT4⟩ := FT4b
          injection ee with ee
          injection ee with ee1 ee2
          subst ee1; subst ee2
          have HT4 := hidb HT4
          obtain ⟨q, hq1, hq2, hq3, hq4⟩ : ∃ q, a = some ⟨q, 0, none⟩ ∧ q ≠ g.fb ∧ g.mp ≠ some q ∧ q < W4.heap.size := by
            have r := I4.row
            rw [e] at r
            obtain ⟨a', c', e1, _, _, e3⟩ := row_form r
            injection e1 with e1
            subst e1
            rcases e3 with ⟨_, x, _⟩ | ⟨q, x, _, y, _⟩
            · omega
            · subst x
              exact ⟨q, rfl, fun z => HF.out.a1 (by rw [e, ← z]; rfl), HF.out.a3 q (by rw [e]; rfl), y⟩
          subst hq1
          have r4 := I4.row
          rw [e] at r4
          obtain ⟨y0, _, s0, s1, g0, g1⟩ := row_two r4 k hkc
          have b41 := Lib.cell_of_heap I4.box 1
          simp at b41
          rw [e, ← HN.out] at b41
          have x40 := Lib.cell_of_heap hx4 0
          have x41 := Lib.cell_of_heap hx4 1
          simp at x40 x41
          have HQ : Hid (∀ W, CrI g f fates k (y :: fk) done w W → ∀ z : Sec, fateS f.cs[k].s x y = z → CrI g f fates (k + 1) fk (done ++ [z]) w ((W.setCell ⟨q, k * 2, none⟩ (sv z.b)).setCell ⟨q, k * 2 + 1, none⟩ (.bool z.bad))) := hidb fun W hW z hz => hW.put f.cs[k] hc z (by rw [crC, hcn, ← hz]) e hq2 hq3
          have HF8 := hidb (fate15_any y)
          have HW4 : Hid (∀ mm, CrI g f fates k (y :: fk) done w (W4.drewN mm)) := hidb fun mm => ⟨I4.len, I4.cr, I4.row, I4.map, I4.box, I4.kt.drewN mm⟩
          have hk2 : (k : Int) < n := by omega
          obtain ⟨ln, hln⟩ : ∃ ln, ln = fk.length := ⟨_, rfl⟩
          rw [← hln] at hf1 HT HT4 FT FT4 HI
          have HLn := hidb hln
          clear hln
          by_cases hfc : fc = 1
          · rw [if_pos hfc] at HT4
            rcases fate3 y with hy | hy | hy
            · have HI3 : Hid (∀ mm, ∃ fk done, CrI g f fates (k + 1) fk done w (W4.drewN mm) ∧ FatO S (W4.drewN mm) (.slice (some ⟨fb, fo, none⟩) ln (fc - 1)) fk) := hidb fun mm => ⟨fk, _, (HW4.out mm).stay f.cs[k] hc (by rw [crC, hcn]; show (fateS _ _ _ :: _, _) = _; rw [fateS, hy, if_neg (by omega), if_neg (by omega)]), HT4.out.kt ((Kt.refl _ _).drewN mm)⟩
              have HT5 := hidb fun mm => HT4.out.kt ((Kt.refl S W4).drewN mm)
              rw [hy] at HF8
              clear HI I FT hlk hcn hwk hc I4 FT4 hx4 HQ r4 HT HT4 hy e hf3
              generalize g.mp = mp at *
              generalize g.sl = gsl at *
              go_wp2_with fail
              rw [← hW4]
              clear hW4
              go_quiet ((go_at_call 66; exact Calls.quiet_of_same (HF8.out _)))
              have y41 : (W4.drewN nq).cell? ⟨g.fb, 1, none⟩ = some (.slice (some ⟨q, 0, none⟩) n c) := b41
              have y40 : (W4.drewN nq).cell? ⟨wr.heap.size, 0, none⟩ = some (sv x.b) := x40
              have y42 : (W4.drewN nq).cell? ⟨wr.heap.size, 1, none⟩ = some (.bool x.bad) := x41
              have z0 : (W4.drewN nq).cell? ⟨q, k * 2, none⟩ = some (sv y0.b) := s0
              have z1 : (W4.drewN nq).cell? ⟨q, k * 2 + 1, none⟩ = some (.bool y0.bad) := s1
              have v0 : (W4.drewN nq).frozen? ⟨q, k * 2, none⟩ = false := g0
              have v1 : (W4.drewN nq).frozen? ⟨q, k * 2 + 1, none⟩ = false := g1
              replace HI3 := hidb (HI3.out nq)
              generalize W4.drewN nq = W5 at *
              go_wp2_with fail
              exact ⟨⟨k + 1, _, ln, fc - 1, by rw [HLn.out, hfc], by go_num, by omega, HI3⟩, by simp [intOf]; omega⟩
            · have HI3 : Hid (∀ W, CrI g f fates k (y :: fk) done w W → FatO S W (.slice (some ⟨fb, fo, none⟩) ln (fc - 1)) fk → ∃ fk done, CrI g f fates (k + 1) fk done w ((W.setCell ⟨q, k * 2, none⟩ (sv x.b)).setCell ⟨q, k * 2 + 1, none⟩ (.bool x.bad)) ∧ FatO S ((W.setCell ⟨q, k * 2, none⟩ (sv x.b)).setCell ⟨q, k * 2 + 1, none⟩ (.bool x.bad)) (.slice (some ⟨fb, fo, none⟩) ln (fc - 1)) fk) := hidb fun W hW hT => ⟨fk, _, HQ.out W hW x (by rw [fateS, hy, if_pos rfl]), hT.kt (((Kt.refl _ _).set fun _ => HSS.out _ (.inr (.inl (by rw [e]; rfl)))).set fun _ => HSS.out _ (.inr (.inl (by rw [e]; rfl))))⟩
              have HT5 := hidb fun mm => HT4.out.kt ((Kt.refl S W4).drewN mm)
              rw [hy] at HF8
              clear HI I FT hlk hcn hwk hc I4 FT4 hx4 HQ r4 HT HT4 hy e hf3
              generalize g.mp = mp at *
              generalize g.sl = gsl at *
              go_wp2_with fail
              rw [← hW4]
              clear hW4
              go_quiet ((go_at_call 66; exact Calls.quiet_of_same (HF8.out _)))
              have y41 : (W4.drewN nq).cell? ⟨g.fb, 1, none⟩ = some (.slice (some ⟨q, 0, none⟩) n c) := b41
              have y40 : (W4.drewN nq).cell? ⟨wr.heap.size, 0, none⟩ = some (sv x.b) := x40
              have y42 : (W4.drewN nq).cell? ⟨wr.heap.size, 1, none⟩ = some (.bool x.bad) := x41
              have z0 : (W4.drewN nq).cell? ⟨q, k * 2, none⟩ = some (sv y0.b) := s0
              have z1 : (W4.drewN nq).cell? ⟨q, k * 2 + 1, none⟩ = some (.bool y0.bad) := s1
              have v0 : (W4.drewN nq).frozen? ⟨q, k * 2, none⟩ = false := g0
              have v1 : (W4.drewN nq).frozen? ⟨q, k * 2 + 1, none⟩ = false := g1
              replace HI3 := hidb (HI3.out (W4.drewN nq).drew (HW4.out (nq + 1)) (HT5.out (nq + 1)))
              clear HW4 HT5
              generalize W4.drewN nq = W5 at *
              rw [show (W5.drew.setCell ⟨q, k * 2, none⟩ (sv x.b)).setCell ⟨q, k * 2 + 1, none⟩ (.bool x.bad) = ((W5.setCell ⟨q, k * 2, none⟩ (sv x.b)).setCell ⟨q, k * 2 + 1, none⟩ (.bool x.bad)).drew from rfl] at HI3
              clear s0 s1 g0 g1 b41 x40 x41 b1 b2 bf
              go_wp2_with fail
              go_region
              go_wp2_with fail
              exact ⟨⟨k + 1, _, ln, fc - 1, by rw [HLn.out, hfc], by go_num, by omega, HI3⟩, by simp [intOf]; omega⟩
            · have HI3 : Hid (∀ W, CrI g f fates k (y :: fk) done w W → FatO S W (.slice (some ⟨fb, fo, none⟩) ln (fc - 1)) fk → ∃ fk done, CrI g f fates (k + 1) fk done w ((W.setCell ⟨q, k * 2, none⟩ (sv [])).setCell ⟨q, k * 2 + 1, none⟩ (.bool true)) ∧ FatO S ((W.setCell ⟨q, k * 2, none⟩ (sv [])).setCell ⟨q, k * 2 + 1, none⟩ (.bool true)) (.slice (some ⟨fb, fo, none⟩) ln (fc - 1)) fk) := hidb fun W hW hT => ⟨fk, _, HQ.out W hW badSec (by rw [fateS, hy, if_neg (by omega), if_pos rfl]), hT.kt (((Kt.refl _ _).set fun _ => HSS.out _ (.inr (.inl (by rw [e]; rfl)))).set fun _ => HSS.out _ (.inr (.inl (by rw [e]; rfl))))⟩
              have HT5 := hidb fun mm => HT4.out.kt ((Kt.refl S W4).drewN mm)
              rw [hy] at HF8
              clear HI I FT hlk hcn hwk hc I4 FT4 hx4 HQ r4 HT HT4 hy e hf3
              generalize g.mp = mp at *
              generalize g.sl = gsl at *
              go_wp2_with fail
              rw [← hW4]
              clear hW4
              go_quiet ((go_at_call 66; exact Calls.quiet_of_same (HF8.out _)))
              have y41 : (W4.drewN nq).cell? ⟨g.fb, 1, none⟩ = some (.slice (some ⟨q, 0, none⟩) n c) := b41
              have y40 : (W4.drewN nq).cell? ⟨wr.heap.size, 0, none⟩ = some (sv x.b) := x40
              have y42 : (W4.drewN nq).cell? ⟨wr.heap.size, 1, none⟩ = some (.bool x.bad) := x41
              have z0 : (W4.drewN nq).cell? ⟨q, k * 2, none⟩ = some (sv y0.b) := s0
              have z1 : (W4.drewN nq).cell? ⟨q, k * 2 + 1, none⟩ = some (.bool y0.bad) := s1
              have v0 : (W4.drewN nq).frozen? ⟨q, k * 2, none⟩ = false := g0
              have v1 : (W4.drewN nq).frozen? ⟨q, k * 2 + 1, none⟩ = false := g1
              replace HI3 := hidb (HI3.out (W4.drewN nq) (HW4.out nq) (HT5.out nq))
              clear HW4 HT5
              generalize W4.drewN nq = W5 at *
              clear s0 s1 g0 g1 b41 x40 x41 b1 b2 bf
              go_wp2_with fail
              exact ⟨⟨k + 1, _, ln, fc - 1, by rw [HLn.out, hfc], by go_num, by omega, HI3⟩, by simp [intOf]; omega⟩
          · rw [if_neg hfc] at HT4
            rcases fate3 y with hy | hy | hy
            · have HI3 : Hid (∀ mm, ∃ fk done, CrI g f fates (k + 1) fk done w (W4.drewN mm) ∧ FatO S (W4.drewN mm) (.slice (some ⟨fb, fo + 1, none⟩) ln (fc - 1)) fk) := hidb fun mm => ⟨fk, _, (HW4.out mm).stay f.cs[k] hc (by rw [crC, hcn]; show (fateS _ _ _ :: _, _) = _; rw [fateS, hy, if_neg (by omega), if_neg (by omega)]), HT4.out.kt ((Kt.refl _ _).drewN mm)⟩
              have HT5 := hidb fun mm => HT4.out.kt ((Kt.refl S W4).drewN mm)
              rw [hy] at HF8
              clear HI I FT hlk hcn hwk hc I4 FT4 hx4 HQ r4 HT HT4 hy e hf3
              generalize g.mp = mp at *
              generalize g.sl = gsl at *
              go_wp2_with fail
              rw [← hW4]
              clear hW4
              go_quiet ((go_at_call 66; exact Calls.quiet_of_same (HF8.out _)))
              have y41 : (W4.drewN nq).cell? ⟨g.fb, 1, none⟩ = some (.slice (some ⟨q, 0, none⟩) n c) := b41
              have y40 : (W4.drewN nq).cell? ⟨wr.heap.size, 0, none⟩ = some (sv x.b) := x40
              have y42 : (W4.drewN nq).cell? ⟨wr.heap.size, 1, none⟩ = some (.bool x.bad) := x41
              have z0 : (W4.drewN nq).cell? ⟨q, k * 2, none⟩ = some (sv y0.b) := s0
              have z1 : (W4.drewN nq).cell? ⟨q, k * 2 + 1, none⟩ = some (.bool y0.bad) := s1
              have v0 : (W4.drewN nq).frozen? ⟨q, k * 2, none⟩ = false := g0
              have v1 : (W4.drewN nq).frozen? ⟨q, k * 2 + 1, none⟩ = false := g1
              replace HI3 := hidb (HI3.out nq)
              generalize W4.drewN nq = W5 at *
              go_wp2_with fail
              exact ⟨⟨k + 1, _, ln, fc - 1, by rw [HLn.out], by go_num, by omega, HI3⟩, by simp [intOf]; omega⟩
            · have HI3 : Hid (∀ W, CrI g f fates k (y :: fk) done w W → FatO S W (.slice (some ⟨fb, fo + 1, none⟩) ln (fc - 1)) fk → ∃ fk done, CrI g f fates (k + 1) fk done w ((W.setCell ⟨q, k * 2, none⟩ (sv x.b)).setCell ⟨q, k * 2 + 1, none⟩ (.bool x.bad)) ∧ FatO S ((W.setCell ⟨q, k * 2, none⟩ (sv x.b)).setCell ⟨q, k * 2 + 1, none⟩ (.bool x.bad)) (.slice (some ⟨fb, fo + 1, none⟩) ln (fc - 1)) fk) := hidb fun W hW hT => ⟨fk, _, HQ.out W hW x (by rw [fateS, hy, if_pos rfl]), hT.kt (((Kt.refl _ _).set fun _ => HSS.out _ (.inr (.inl (by rw [e]; rfl)))).set fun _ => HSS.out _ (.inr (.inl (by rw [e]; rfl))))⟩
              have HT5 := hidb fun mm => HT4.out.kt ((Kt.refl S W4).drewN mm)
              rw [hy] at HF8
              clear HI I FT hlk hcn hwk hc I4 FT4 hx4 HQ r4 HT HT4 hy e hf3
              generalize g.mp = mp at *
              generalize g.sl = gsl at *
              go_wp2_with fail
              rw [← hW4]
              clear hW4
              go_quiet ((go_at_call 66; exact Calls.quiet_of_same (HF8.out _)))
              have y41 : (W4.drewN nq).cell? ⟨g.fb, 1, none⟩ = some (.slice (some ⟨q, 0, none⟩) n c) := b41
              have y40 : (W4.drewN nq).cell? ⟨wr.heap.size, 0, none⟩ = some (sv x.b) := x40
              have y42 : (W4.drewN nq).cell? ⟨wr.heap.size, 1, none⟩ = some (.bool x.bad) := x41
              have z0 : (W4.drewN nq).cell? ⟨q, k * 2, none⟩ = some (sv y0.b) := s0
              have z1 : (W4.drewN nq).cell? ⟨q, k * 2 + 1, none⟩ = some (.bool y0.bad) := s1
              have v0 : (W4.drewN nq).frozen? ⟨q, k * 2, none⟩ = false := g0
              have v1 : (W4.drewN nq).frozen? ⟨q, k * 2 + 1, none⟩ = false := g1
              replace HI3 := hidb (HI3.out (W4.drewN nq).drew (HW4.out (nq + 1)) (HT5.out (nq + 1)))
              clear HW4 HT5
              generalize W4.drewN nq = W5 at *
              rw [show (W5.drew.setCell ⟨q, k * 2, none⟩ (sv x.b)).setCell ⟨q, k * 2 + 1, none⟩ (.bool x.bad) = ((W5.setCell ⟨q, k * 2, none⟩ (sv x.b)).setCell ⟨q, k * 2 + 1, none⟩ (.bool x.bad)).drew from rfl] at HI3
              clear s0 s1 g0 g1 b41 x40 x41 b1 b2 bf
              go_wp2_with fail
              go_region
              go_wp2_with fail
              exact ⟨⟨k + 1, _, ln, fc - 1, by rw [HLn.out], by go_num, by omega, HI3⟩, by simp [intOf]; omega⟩
            · have HI3 : Hid (∀ W, CrI g f fates k (y :: fk) done w W → FatO S W (.slice (some ⟨fb, fo + 1, none⟩) ln (fc - 1)) fk → ∃ fk done, CrI g f fates (k + 1) fk done w ((W.setCell ⟨q, k * 2, none⟩ (sv [])).setCell ⟨q, k * 2 + 1, none⟩ (.bool true)) ∧ FatO S ((W.setCell ⟨q, k * 2, none⟩ (sv [])).setCell ⟨q, k * 2 + 1, none⟩ (.bool true)) (.slice (some ⟨fb, fo + 1, none⟩) ln (fc - 1)) fk) := hidb fun W hW hT => ⟨fk, _, HQ.out W hW badSec (by rw [fateS, hy, if_neg (by omega), if_pos rfl]), hT.kt (((Kt.refl _ _).set fun _ => HSS.out _ (.inr (.inl (by rw [e]; rfl)))).set fun _ => HSS.out _ (.inr (.inl (by rw [e]; rfl))))⟩
              have HT5 := hidb fun mm => HT4.out.kt ((Kt.refl S W4).drewN mm)
              rw [hy] at HF8
              clear HI I FT hlk hcn hwk hc I4 FT4 hx4 HQ r4 HT HT4 hy e hf3
              generalize g.mp = mp at *
              generalize g.sl = gsl at *
              go_wp2_with fail
              rw [← hW4]
              clear hW4
              go_quiet ((go_at_call 66; exact Calls.quiet_of_same (HF8.out _)))
              have y41 : (W4.drewN nq).cell? ⟨g.fb, 1, none⟩ = some (.slice (some ⟨q, 0, none⟩) n c) := b41
              have y40 : (W4.drewN nq).cell? ⟨wr.heap.size, 0, none⟩ = some (sv x.b) := x40
              have y42 : (W4.drewN nq).cell? ⟨wr.heap.size, 1, none⟩ = some (.bool x.bad) := x41
              have z0 : (W4.drewN nq).cell? ⟨q, k * 2, none⟩ = some (sv y0.b) := s0
              have z1 : (W4.drewN nq).cell? ⟨q, k * 2 + 1, none⟩ = some (.bool y0.bad) := s1
              have v0 : (W4.drewN nq).frozen? ⟨q, k * 2, none⟩ = false := g0
              have v1 : (W4.drewN nq).frozen? ⟨q, k * 2 + 1, none⟩ = false := g1
              replace HI3 := hidb (HI3.out (W4.drewN nq) (HW4.out nq) (HT5.out nq))
              clear HW4 HT5
              generalize W4.drewN nq = W5 at *
              clear s0 s1 g0 g1 b41 x40 x41 b1 b2 bf
              go_wp2_with fail
              exact ⟨⟨k + 1, _, ln, fc - 1, by rw [HLn.out], by go_num, by omega, HI3⟩, by simp [intOf]; omega⟩
    · obtain ⟨e1, e2, M⟩ := I.fin HF.out (by rw [← HN.out]; omega)
      have HTr : Hid (Calls Tryz.prog 67 #[.pointer (some ⟨g.fb, 1, none⟩)] (wr.setCell ⟨g.fb, 2, none⟩ (.map none)) fun e w' => e = .returned (.tuple #[]) ∧ Hid (FatO S w' (.slice fa fl fc) (crF f fates).2 ∧ FEnd g (crF f fates).1 w w')) := hidb (by
        have hs : (Fl.mk f.name (done.map mkC)).sure = done := mkC_sure done
        refine (trim15_any _ _ _ M.at_ rfl (by rw [hs])).mono fun e w' ⟨h1, h2⟩ => ⟨h1, hidb ⟨?_, ?_⟩⟩
        · obtain ⟨g2, K⟩ := h2.out
          have k1 : Kt g.has wr (wr.setCell ⟨g.fb, 2, none⟩ (.map none)) := (Kt.refl _ _).set fun _ => .inl rfl
          rw [← e2]
          exact FT.kt ((k1.trans (K.kt.mono fun i _ x => x) fun i _ x => by
            rcases x with x | x | x
            · exact .inl x
            · exact .inr (.inl x)
            · cases x).mono fun i _ x => HSS.out i x)
        · have := M.comp h2.out
          rw [hs, e1] at this
          exact this)
      clear HI I FT e1 e2 M
      go_wp2_with (first | (go_at_call 67; refine HTr.out.mono ?_; clear HTr; rintro e w2 ⟨rfl, HE⟩) | fail)
      go_ret
      exact ⟨_, rfl, HE⟩
end Go.Proofs.YthmjejmignangaaGreatDoor
