/- Layer 11: a store's Scan: the walk. -/
import Derived.Test.YticihfbhnbkjjaaDoorKB
import Derived.Maps.OwnIn
import Derived.Maps.AppendAt
namespace Go.Proofs.YticihfbhnbkjjaaDoor
open Go.RowKit Go.Shelf
attribute [local go_sem] Oper.semAt_some
theorem results_tmpK {fn : Func} {t : Tmp} (h : fn.results = #[.tmp t]) (tmps : Array Value) (P : Program) (w : World) (v : Value) (ha : tmps[t]?.getD undef = v) : (results fn tmps).run P w = .ok v w := by
  simp [results, h, ha]
/-- All of these are told, and not yet enough. -/
def PreOk (tk : Bt) (m : Int) (pre : Kvs) : Prop := (∀ y ∈ pre, inB tk y = true) ∧ (m = 0 ∨ (pre.length : Int) < m)
/-- What Scan leaves. -/
def ScEnd (X : Kvs) (w : World) (e : Ending) (w' : World) : Prop := ∃ v, e = .returned v ∧ w'.ownsRow w.heap.size 62 2 v X.length (cellsP X) ∧ Below w.heap.size w w'
theorem row_lower {w : World} {B B' n size : Nat} {e : TypeId} {v : Value} {xs : List Value} (h : w.ownsRow B e size v n xs) (hB : B' ≤ B) : w.ownsRow B' e size v n xs := by
  refine ⟨h.1, ?_⟩
  rcases h.2 with x | ⟨g, cap, cur, x1, x2, x3⟩
  · exact .inl x
  · exact .inr ⟨g, cap, cur, x1, Nat.le_trans hB x2, x3⟩
theorem scan_fin {sb tb g Z D' : Nat} {L X : Kvs} {tk : Bt} {m : Int} {w W : World} {v : Value} (hI : ScI sb tb g L tk m Z w X W) (v2 : W.ownsRow (Z + 3) 62 2 v X.length (cellsP X)) (hZ : Z = w.heap.size) (hD : Z + 5 ≤ D') (hK : W.heap[D']? = some (.deferred (some []))) : ScEnd X w (.returned v) (W.putObj D' (.deferred none)) := by
  refine ⟨v, rfl, ?_, ?_⟩
  · refine row_lower (World.ownsRow.kept v2 (grownBy_putObj' W D' (.deferred none)) (.inr fun e => ?_)) (by omega)
    obtain ⟨_, o, ho, hc⟩ := row_cells v2 D' e
    rw [hK] at ho
    cases ho
    cases hc
  · rw [← hZ]
    have hs := hI.siz
    refine hI.bel.grown (grownBy_putObj' W D' (.deferred none)) (by omega) fun j ej => ?_
    cases ej
    omega
set_option maxRecDepth 100000 in
set_option maxHeartbeats 1000000 in
theorem scan_any (sb tb g : Nat) (L : Kvs) (fr tk : Bt) (m : Int) (w : World) (h : StAt sb tb g L w) (hm : 0 ≤ m) (hL : L.length ≤ 1000000) :
    Calls Tryd.prog 19 #[.pointer (some ⟨sb, 0, none⟩), sv fr, sv tk, .int .i64 m] w (ScEnd (scanL L fr tk m) w) := by
  refine (callsIn_wide (n := 3)).1 ?_
  refine callsIn_of_wp_marks Tryd.func19 rfl trivial ?_ rfl
  simp only [Tryd.ntmps19, List.size_toArray, List.length_cons, List.length_nil, Nat.reduceAdd, Nat.reduceSub, Array.replicate_succ, Array.replicate_zero, List.push_toArray, List.append_toArray, List.nil_append, List.cons_append]
  have x0 : ((w.alloc (.cells #[sv tk] 9)).alloc (.cells #[.int .i64 m] 3)).cell? ⟨sb, 0, none⟩ = some (.pointer (some ⟨tb, 0, none⟩)) := (h.below (((Below.refl _ w).alloc (Nat.le_refl _) _).alloc (by simp) _)).c
  have hmd := hidb (stmade_any sb _ tb x0)
  have H0 := ScI.start (tk := tk) (m := m) h
  obtain ⟨f0, f1, f2⟩ := H0.facts
  obtain ⟨Z, hZ⟩ : ∃ Z, Z = w.heap.size := ⟨_, rfl⟩
  have hr := hidb (rise_call tb fr (((w.alloc (.cells #[sv tk] 9)).alloc (.cells #[.int .i64 m] 3)).alloc (.cells #[.slice none 0 0] 44)))
  have HI0 := hidb H0
  have hd : decide (m < 0) = false := by simpa using hm
  have hx := h.lts.1
  clear H0
  gi_wp2_with (first
    | (refine ⟨trivial, ?_⟩; gi_at_call 37; refine (callsIn_wide.2 hmd.out).mono ?_; clear hmd; rintro e w' ⟨rfl, rfl⟩)
    | (refine ⟨trivial, ?_⟩; gi_at_call 49; refine (callsIn_wide.2 hr.out).mono ?_; clear hr; rintro e w' ⟨rfl, rfl⟩)
    | fail)
  obtain ⟨Wb, hWb⟩ : ∃ Wb, Wb = ((w.alloc (.cells #[sv tk] 9)).alloc (.cells #[.int .i64 m] 3)).alloc (.cells #[.slice none 0 0] 44) := ⟨_, rfl⟩
  obtain ⟨Wc, hWc⟩ : ∃ Wc, Wc = (Wb.alloc (.cells #[.pointer (some ⟨tb, 0, none⟩)] 50)).alloc (.cells #[sv fr] 9) := ⟨_, rfl⟩
  have hsz : Wb.heap.size = w.heap.size + 3 := by rw [hWb]; simp
  rw [← hWb] at HI0 f0 f1 f2
  have hBc : Below Wb.heap.size Wb Wc := by rw [hWc]; exact ((Below.refl _ Wb).alloc (Nat.le_refl _) _).alloc (by simp) _
  have HIc : Hid (ScI sb tb g L tk m Z w [] Wc) := hidb (by rw [hZ]; exact HI0.out.below hBc)
  have bx3 : Wc.heap[Z + 3]? = some (.cells #[.pointer (some ⟨tb, 0, none⟩)] 50 (0, 0)) := by
    rw [hWc, Below.heap_alloc _ _ _ (by simp; omega), show Z + 3 = Wb.heap.size by omega, heap_alloc_new]
  have bx4 : Wc.heap[Z + 4]? = some (.cells #[sv fr] 9 (0, 0)) := by
    have := heap_alloc_new (Wb.alloc (.cells #[.pointer (some ⟨tb, 0, none⟩)] 50)) (.cells #[sv fr] 9)
    rw [World.size_alloc, hsz] at this
    rw [hWc, show Z + 4 = w.heap.size + 3 + 1 by omega]
    exact this
  have hszc : Wc.heap.size = Z + 5 := by rw [hWc]; simp; omega
  rw [← hWb, ← hWc]
  clear hWb hWc HI0 hBc hsz f0 f1 f2 x0
  have hlt := h.lts
  rw [← hZ]
  have HZ := hidb hZ
  have lsbZ : sb < Z := by omega
  have ltbZ : tb < Z := by omega
  have lgZ : g < Z := by omega
  clear hZ hlt hx
  refine range_feeds2 (Kp := KpS fun k => k = Z + 1 + 1 + 1 ∨ k = Z + 1 + 1 + 1 + 1 ∨ k = tb ∨ k = g) (xs := fromL L fr) (encs := fun x : Bt × Bt => #[sv x.1, sv x.2]) rfl (by decide) (gf := 77) (lb := #[.pointer (some ⟨Z + 1 + 1 + 1, 0, none⟩), .pointer (some ⟨Z + 1 + 1 + 1 + 1, 0, none⟩)]) rfl trivial (enters_of Tryd.func77 (by kernel_rfl) rfl)
    (fun W hW => by
      have hI := HIc.out.below hW
      exact rise_feeds 2 (Z + 1 + 1 + 1) (Z + 1 + 1 + 1 + 1) tb g L fr W (by rw [hW.cell (p := ⟨Z + 3, 0, none⟩) (by show Z + 3 < _; omega)]; exact Lib.cell_of_heap bx3 0) (by rw [hW.cell (p := ⟨Z + 4, 0, none⟩) (by show Z + 4 < _; omega)]; exact Lib.cell_of_heap bx4 0) hI.st.t)
    (fun h k => h.trans k) (fun W l o hl k hk => World.putObj_heap_other (by rcases hk with rfl | rfl | rfl | rfl <;> omega)) (fun _ => rfl)
    (fun pre W => ScI sb tb g L tk m Z w pre W ∧ W.heap[Z + 3]? = some (.cells #[.pointer (some ⟨tb, 0, none⟩)] 50 (0, 0)) ∧ W.heap[Z + 4]? = some (.cells #[sv fr] 9 (0, 0)) ∧ PreOk tk m pre) (fun c _ W => c = .exit 0 ∧ ScI sb tb g L tk m Z w (scanL L fr tk m) W) (fun pre X Y row h hg hrow => ⟨ScI.own (B := Wc.heap.size) (by omega) pre X Y row h.1 hg hrow, (hg.block _ (heap_ltb h.2.1) fun e => by have := (hrow _ e.symm).1; omega).trans h.2.1, (hg.block _ (heap_ltb h.2.2.1) fun e => by have := (hrow _ e.symm).1; omega).trans h.2.2.1, h.2.2.2⟩) (fun c pre X Y row h hg hrow => ⟨h.1, ScI.own (B := Wc.heap.size) (by omega) _ X Y row h.2 hg hrow⟩) ⟨HIc.out, bx3, bx4, fun y hy => (by cases hy), (by simp; omega)⟩
    (fun x => { tmps := #[.pointer (some ⟨sb, 0, none⟩), sv fr, sv tk, .int .i64 m, undef, undef, .pointer (some ⟨Z, 0, none⟩), .pointer (some ⟨Z + 1, 0, none⟩), .slice none 0 0, .pointer (some ⟨Z + 1 + 1, 0, none⟩), sv x.1, sv x.2, .pointer (some ⟨sb, 0, none⟩), .bool true, .bool false, .bool false, .int .i64 m, .bool false, .bool false, .pointer (some ⟨sb, 0, none⟩), .pointer (some ⟨sb, 0, none⟩), .pointer (some ⟨sb, 0, none⟩), .pointer (some ⟨tb, 0, none⟩), sv fr, .func (.func 77) #[] #[.pointer (some ⟨Z + 1 + 1 + 1, 0, none⟩), .pointer (some ⟨Z + 1 + 1 + 1 + 1, 0, none⟩)], sv x.1, sv x.2, undef, undef, undef, undef, undef, undef, undef, undef, undef, undef, undef, undef, undef, undef, undef, undef, undef, undef], defers := [] }) ?assign ?body ?done ?stop
  case assign =>
    intro l x W K hK
    gi_wp2
    exact hK
  case stop =>
    rintro D' c pre W hD hpre ⟨rfl, hI⟩ hK
    have g9 := hI.facts
    obtain ⟨v, v1, v2⟩ := hI.bl
    have c9 := Lib.cell_of_heap v1 0
    have HE := hidb (scan_fin hI v2 HZ.out (by omega) hK)
    clear hI v2 v1 HIc bx3 bx4
    gi_wp2
    refine ⟨by simp, .inl ⟨_, _, rfl, run_takeDeferred hK, ?_⟩⟩
    refine ⟨_, ?_, HE.out⟩
    exact results_tmpK rfl _ _ _ _ rfl
  case done =>
    rintro D' W hD ⟨hI, z3, z4, ⟨hp, hq⟩⟩ hK
    have g9 := hI.facts
    obtain ⟨v, v1, v2⟩ := hI.bl
    have c9 := Lib.cell_of_heap v1 0
    have HE := hidb (scan_fin hI v2 HZ.out (by omega) hK)
    rw [← scan_done (tk := tk) (m := m) hp (by omega)] at HE
    clear hI v2 v1 HIc bx3 bx4 z3 z4 hp hq
    gi_wp2
    refine ⟨by simp, .inl ⟨_, _, rfl, run_takeDeferred hK, ?_⟩⟩
    refine ⟨_, ?_, HE.out⟩
    exact results_tmpK rfl _ _ _ _ rfl
  case body =>
    rintro l pre x W ⟨hI, e3, e4, ⟨hp, hq⟩⟩ hx
    have HSZ := hidb hszc
    clear hszc bx3 bx4
    obtain ⟨g0, g1, g2⟩ := hI.facts
    by_cases hin : inB tk x = true
    · have hsn : ∀ y ∈ pre ++ [x], inB tk y = true := fun y hy => by
        rcases List.mem_append.1 hy with e | e
        · exact hp y e
        · rw [List.mem_singleton.1 e]; exact hin
      have hpl : pre.length ≤ 1000000 := by
        have h1 := hx.length_le
        have h2 := List.length_filter_le (fun x : Bt × Bt => decide (¬ klt x.1 fr)) L
        simp only [List.length_append, List.length_cons, List.length_nil] at h1
        unfold fromL at h1
        omega
      have HL1 : pre.length + 1 ≤ maxLen := Nat.le_trans (by omega : pre.length + 1 ≤ 1000001) (by decide)
      have HL2 : (pre.length + 1) * 32 ≤ 140737488355328 := by omega
      obtain ⟨v, v1, v2⟩ := hI.bl
      obtain ⟨va, vc, rfl, hcl⟩ := row_form v2
      clear hcl
      have hsW : Z + 3 ≤ (W.alloc (.cells #[sv x.1, sv x.2] 62)).heap.size := by
        have := hI.siz
        simp only [World.size_alloc]
        omega
      obtain ⟨i0, hi, hz0, hz1, hz2⟩ := info_parts (show (Tryd.prog.info? 62).map (fun i => (i.zero, i.size, i.bytes)) = some (some (.agg #[.string ⟨#[]⟩, .string ⟨#[]⟩]), 2, 32) by kernel_rfl)
      have c1 := Lib.cell_of_heap v1 0
      have HR : Hid ((W.alloc (.cells #[sv x.1, sv x.2] 62)).ownsRow (Z + 3) 62 2 (.slice va pre.length vc) pre.length (cellsP pre)) := hidb (row_below2 v2 ((Below.refl W.heap.size W).alloc (Nat.le_refl _) _))
      have HN : Hid (∀ j u, [sv x.1, sv x.2][j]? = some u → (W.alloc (.cells #[sv x.1, sv x.2] 62)).cell? ((⟨W.heap.size, 0, none⟩ : Addr).add j) = some u) := hidb (cells_newb W [sv x.1, sv x.2] 62 W.heap.size rfl)
      have HO1 : ∀ u ∈ [sv x.1, sv x.2], u.oneCell' = true := by simp [Value.oneCell']
      obtain ⟨n1, hn1⟩ : ∃ n1, n1 = pre.length + 1 := ⟨_, rfl⟩
      have HP : Hid (∀ v' w6, w6.ownsRow (Z + 3) 62 2 v' (pre.length + 1) (cellsP pre ++ [sv x.1, sv x.2]) → Step (W.alloc (.cells #[sv x.1, sv x.2] 62)) (.slice va pre.length vc) w6 v' →
          (w6.cell? ⟨Z + 2, 0, none⟩ = some (.slice va pre.length vc) ∧ w6.frozen? ⟨Z + 2, 0, none⟩ = false ∧ (w6.cell? ⟨Z + 1, 0, none⟩ = some (.int .i64 m)) ∧ ∃ a c, v' = .slice a n1 c) ∧
          ((pre.length : Int) + 1 = m → KeepsFrom Wc.heap.size W (w6.setCell ⟨Z + 2, 0, none⟩ v') ∧ Code.exit 0 = Code.exit 0 ∧ ScI sb tb g L tk m Z w (scanL L fr tk m) (w6.setCell ⟨Z + 2, 0, none⟩ v')) ∧
          (¬ (pre.length : Int) + 1 = m → KeepsFrom Wc.heap.size W (w6.setCell ⟨Z + 2, 0, none⟩ v') ∧ (KpS fun k => k = Z + 1 + 1 + 1 ∨ k = Z + 1 + 1 + 1 + 1 ∨ k = tb ∨ k = g) W (w6.setCell ⟨Z + 2, 0, none⟩ v') ∧ ScI sb tb g L tk m Z w (pre ++ [x]) (w6.setCell ⟨Z + 2, 0, none⟩ v') ∧ (w6.setCell ⟨Z + 2, 0, none⟩ v').heap[Z + 3]? = some (.cells #[.pointer (some ⟨tb, 0, none⟩)] 50 (0, 0)) ∧ (w6.setCell ⟨Z + 2, 0, none⟩ v').heap[Z + 4]? = some (.cells #[sv fr] 9 (0, 0)) ∧ PreOk tk m (pre ++ [x]))) := hidb fun v' w6 hr hst => by
        obtain ⟨p1, p2, p3, p4⟩ := ScI.push (x := x) hI v1 v2 hr hst
        have n3 : (Value.slice va pre.length vc).ownBlock ≠ some (Z + 3) := fun e => absurd (row_typed v2 e e3) (by decide)
        have n4 : (Value.slice va pre.length vc).ownBlock ≠ some (Z + 4) := fun e => absurd (row_typed v2 e e4) (by decide)
        have nl : ∀ k < Z, (Value.slice va pre.length vc).ownBlock ≠ some k := fun k hk e => by
          have := (row_cells v2 k e).1
          omega
        have hsz := hI.siz
        have k3 := p4 (Z + 3) (heap_ltb e3) (by omega) n3
        have k4 := p4 (Z + 4) (heap_ltb e4) (by omega) n4
        obtain ⟨a6, c6, e6, _⟩ := row_form hr
        have hkf : KeepsFrom Wc.heap.size W (w6.setCell ⟨Z + 2, 0, none⟩ v') := ⟨(p3 0).1, fun k o _ => (p3 0).2 k o (Nat.zero_le _)⟩
        refine ⟨⟨p1.1, p1.2.1, ?_, a6, c6, by rw [hn1]; exact e6⟩, fun hm1 => ⟨hkf, rfl, ?_⟩, fun hm1 => ⟨hkf, ?_, p2, k3.trans e3, k4.trans e4, hsn, ?_⟩⟩
        · have := p2.facts.2.1
          rw [World.cell?_setCell_other] at this
          · exact this
          · simp
        · rw [scan_full hx hsn (by simp only [List.length_append, List.length_cons, List.length_nil]; omega) (by omega)]
          exact p2
        · rintro k (rfl | rfl | rfl | rfl)
          · exact k3
          · exact k4
          · exact p4 _ (by omega) (by omega) (nl _ ltbZ)
          · exact p4 _ (by omega) (by omega) (nl _ lgZ)
        · simp only [List.length_append, List.length_cons, List.length_nil]
          omega
      clear hI v1 v2 e3 e4 hsn hp hq hx
      obtain ⟨xk, xv⟩ := x
      have hn0 : n1 ≤ 1000001 := by omega
      have hbl : tk = [] ∨ ∃ c tl, tk = c :: tl ∧ Op.bytesLess xk (c :: tl) = true := by
        cases tk with
        | nil => exact .inl rfl
        | cons c tl =>
          unfold inB ltB at hin
          simp at hin
          exact .inr ⟨c, tl, rfl, hin⟩
      simp only at HR HN HP HO1 hsW ⊢
      have hq1 : ∀ j : Bool, ((n1 : Int) == m) = j → (j = true → (pre.length : Int) + 1 = m) ∧ (j = false → ¬ (pre.length : Int) + 1 = m) := fun j hj => ⟨fun e => by rw [e] at hj; simp at hj; omega, fun e => by rw [e] at hj; simp at hj; omega⟩
      have HQ := hidb hq1
      clear hq1 hn1 hin
      rcases hbl with rfl | ⟨c, tl, rfl, hbl⟩
      · cases hj : ((n1 : Int) == m) with
        | true =>
          gi_wp2_with (first
            | (gi_at_builtin; refine wpListIn_append_own_at _ rfl _ _ _ rfl (Z + 3) 62 i0 _ 2 32 Tryd.underlying44 hi hz0 hz1 hz2 rfl (by decide) (.slice va pre.length vc) _ _ rfl HR.out ⟨W.heap.size, 0, none⟩ 1 1 [sv xk, sv xv] rfl rfl HN.out HO1 HL1 HL2 hsW ?_; intro v' w6 hr6 hg6 _ hat6; obtain ⟨⟨q1, q2, q4, qa, qc, rfl⟩, q3⟩ := HP.out v' w6 hr6 ⟨hg6, hat6.imp id fun e => ⟨_, e, Nat.le_refl _⟩⟩; have Q3 := hidb q3; clear q3 hr6 hg6 hat6 HP HR)
            | fail)
          have q5 := Q3.out.1 ((HQ.out _ hj).1 rfl)
          exact ⟨q5.1, rfl, q5.2.2⟩
        | false =>
          gi_wp2_with (first
            | (gi_at_builtin; refine wpListIn_append_own_at _ rfl _ _ _ rfl (Z + 3) 62 i0 _ 2 32 Tryd.underlying44 hi hz0 hz1 hz2 rfl (by decide) (.slice va pre.length vc) _ _ rfl HR.out ⟨W.heap.size, 0, none⟩ 1 1 [sv xk, sv xv] rfl rfl HN.out HO1 HL1 HL2 hsW ?_; intro v' w6 hr6 hg6 _ hat6; obtain ⟨⟨q1, q2, q4, qa, qc, rfl⟩, q3⟩ := HP.out v' w6 hr6 ⟨hg6, hat6.imp id fun e => ⟨_, e, Nat.le_refl _⟩⟩; have Q3 := hidb q3; clear q3 hr6 hg6 hat6 HP HR)
            | fail)
          exact Q3.out.2 ((HQ.out _ hj).2 rfl)
      · cases hj : ((n1 : Int) == m) with
        | true =>
          gi_wp2_with (first
            | (gi_at_builtin; refine wpListIn_append_own_at _ rfl _ _ _ rfl (Z + 3) 62 i0 _ 2 32 Tryd.underlying44 hi hz0 hz1 hz2 rfl (by decide) (.slice va pre.length vc) _ _ rfl HR.out ⟨W.heap.size, 0, none⟩ 1 1 [sv xk, sv xv] rfl rfl HN.out HO1 HL1 HL2 hsW ?_; intro v' w6 hr6 hg6 _ hat6; obtain ⟨⟨q1, q2, q4, qa, qc, rfl⟩, q3⟩ := HP.out v' w6 hr6 ⟨hg6, hat6.imp id fun e => ⟨_, e, Nat.le_refl _⟩⟩; have Q3 := hidb q3; clear q3 hr6 hg6 hat6 HP HR)
            | fail)
          have q5 := Q3.out.1 ((HQ.out _ hj).1 rfl)
          exact ⟨q5.1, rfl, q5.2.2⟩
        | false =>
          gi_wp2_with (first
            | (gi_at_builtin; refine wpListIn_append_own_at _ rfl _ _ _ rfl (Z + 3) 62 i0 _ 2 32 Tryd.underlying44 hi hz0 hz1 hz2 rfl (by decide) (.slice va pre.length vc) _ _ rfl HR.out ⟨W.heap.size, 0, none⟩ 1 1 [sv xk, sv xv] rfl rfl HN.out HO1 HL1 HL2 hsW ?_; intro v' w6 hr6 hg6 _ hat6; obtain ⟨⟨q1, q2, q4, qa, qc, rfl⟩, q3⟩ := HP.out v' w6 hr6 ⟨hg6, hat6.imp id fun e => ⟨_, e, Nat.le_refl _⟩⟩; have Q3 := hidb q3; clear q3 hr6 hg6 hat6 HP HR)
            | fail)
          exact Q3.out.2 ((HQ.out _ hj).2 rfl)
    · have hin2 : inB tk x = false := by simpa using hin
      have hne : tk ≠ [] := fun e => by rw [e] at hin2; cases hin2
      have hbl : Op.bytesLess x.1 tk = false := by
        unfold inB ltB at hin2
        simp at hin2
        exact hin2.2
      have HE : Hid (KeepsFrom Wc.heap.size W W ∧ Code.exit 0 = Code.exit 0 ∧ ScI sb tb g L tk m Z w (scanL L fr tk m) W) := hidb ⟨⟨Nat.le_refl _, fun _ _ _ h _ => h⟩, rfl, by rw [scan_stop hx hp hin2 (by omega)]; exact hI⟩
      clear hI e3 e4 hp hq hin hin2 hx
      obtain ⟨xk, xv⟩ := x
      simp only at hbl ⊢
      obtain ⟨c, tl, rfl⟩ : ∃ c tl, tk = c :: tl := by cases tk; exact absurd rfl hne; exact ⟨_, _, rfl⟩
      gi_wp2
      exact ⟨HE.out.1, rfl, HE.out.2.2⟩
set_option maxRecDepth 100000 in
theorem scan_neg (sb tb g : Nat) (L : Kvs) (fr tk : Bt) (m : Int) (w : World) (h : StAt sb tb g L w) (hm : m < 0) :
    Calls Tryd.prog 19 #[.pointer (some ⟨sb, 0, none⟩), sv fr, sv tk, .int .i64 m] w fun e w' => e = .returned (.slice none 0 0) ∧ Below w.heap.size w w' := by
  have hb : Below w.heap.size w ((w.alloc (.cells #[sv tk] 9)).alloc (.cells #[.int .i64 m] 3)) := ((Below.refl _ w).alloc (Nat.le_refl _) _).alloc (by simp) _
  have hmd := hidb (stmade_any sb _ tb (h.below hb).c)
  have HB := hidb hb
  clear h hb
  go_enter Tryd.func19, Tryd.ntmps19
  go_wp2_with (first
    | (go_at_call 37; refine hmd.out.mono ?_; clear hmd; rintro e w' ⟨rfl, rfl⟩)
    | fail)
  go_ret
  exact ⟨rfl, HB.out⟩
end Go.Proofs.YticihfbhnbkjjaaDoor
