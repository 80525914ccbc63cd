/- Layer 11: a transaction's Changes: the walk. -/
import Derived.Test.YtcjakgogdbfagaaKB
import Derived.Maps.OwnIn
import Derived.Maps.AppendAt
namespace Go.Proofs.Ytcjakgogdbfagaa
open Go.RowKit Go.Shelf
attribute [local go_sem] Oper.semAt_some
theorem ch_b1 {n s d : Nat} (h : n ≤ s) (hS : (s + d + 2) * 46 ≤ 140737488355328) : n + 1 ≤ maxLen ∧ (n + 1) * 32 ≤ 140737488355328 := ⟨Nat.le_trans (m := 140737488355328) (by omega) (by decide), Nat.le_trans (Nat.mul_le_mul (by omega : n + 1 ≤ s + d + 2) (by decide : 32 ≤ 46)) hS⟩
theorem chgB_snoc (L pre : Kvs) (x : Bt × Bt) : chgB L (pre ++ [x]) = chgB L pre ++ (if (getL L x.1).isSome then [(x.1, [])] else []) := by
  unfold chgB
  rw [List.filter_append, List.map_append]
  congr 1
  by_cases h : (getL L x.1).isSome <;> simp [h]
theorem ch_b2 {L S D pre : Kvs} {x : Bt × Bt} (hx : pre ++ [x] <+: D) : (chgA L S ++ chgB L pre).length ≤ S.length + D.length := by
  have h1 := List.length_filter_le (fun x => decide (getL L x.1 ≠ some x.2)) S
  have h3 := List.length_filter_le (fun x : Bt × Bt => (getL L x.1).isSome) pre
  have h2 := hx.length_le
  simp only [List.length_append, List.length_cons, List.length_nil] at h2
  rw [List.length_append, chgA, chgB, List.length_map]
  omega
theorem results_tmp11 {fn : Func} {t : Tmp} (h : fn.results = #[.tmp t]) (tmps : Array Value) (P : Program) (w : World) (v : Value) (ha : tmps[t]?.getD undef = v) : (results fn tmps).run P w = .ok v w := by
  simp [results, h, ha]
theorem ch_b3 {L S D : Kvs} : (chgA L S ++ chgB L D).length ≤ S.length + D.length := by
  have h1 := List.length_filter_le (fun x => decide (getL L x.1 ≠ some x.2)) S
  have h3 := List.length_filter_le (fun x : Bt × Bt => (getL L x.1).isSome) D
  rw [List.length_append, chgA, chgB, List.length_map]
  omega
/-- The pairs sorted: what the sort is asked for here. -/
def SortsP : Prop := ∀ (W : World) (base : Nat) (v : Value) (acc : Kvs), acc.length * 32 ≤ 140737488355328 → W.ownsRow base 75 2 v acc.length (cellsP acc) → Calls Try.prog 44 #[v, .func (.func 45) #[] #[]] W fun e w' => e = .returned (.tuple #[]) ∧ Hid (W.grownBy w' v.ownBlock ∧ ∃ acc' : Kvs, acc'.Perm acc ∧ acc'.Pairwise (fun x y => ¬ klt y.1 x.1) ∧ w'.ownsRow base 75 2 v acc'.length (cellsP acc'))
/-- What Changes comes to. -/
def ChEnd (b : TxB) (L S D : Kvs) (more : Int) (w : World) (e : Ending) (w' : World) : Prop := ∃ v acc', e = .returned v ∧ acc'.Perm (chgA L S ++ chgB L D) ∧ acc'.Pairwise (fun x y => ¬ klt y.1 x.1) ∧ w'.ownsRow (w.heap.size + 2) 75 2 v acc'.length (cellsP acc') ∧ TxAt b L S D more w' ∧ Below w.heap.size w w'
set_option maxRecDepth 100000 in
set_option maxHeartbeats 1000000 in
theorem changes_any (b : TxB) (L S D : Kvs) (more : Int) (w : World) (h : TxAt b L S D more w) (hS : (S.length + D.length + 2) * 46 ≤ 140737488355328) (hsort : SortsP) :
    Calls Try.prog 20 #[.pointer (some ⟨b.xb, 0, none⟩)] w (ChEnd b L S D more w) := by
  refine (callsIn_wide (n := 3)).1 ?_
  refine callsIn_of_wp_marks Try.func20 rfl trivial ?_ rfl
  simp only [Try.ntmps20, List.size_toArray, List.length_cons, List.length_nil, Nat.reduceAdd, Nat.reduceSub, Array.replicate_succ, Array.replicate_zero, List.push_toArray, List.append_toArray, List.nil_append, List.cons_append]
  have x0 : (w.alloc (.cells #[.pointer (some ⟨b.xb, 0, none⟩)] 27)).cell? ⟨b.xb, 0, none⟩ = some (.pointer (some ⟨b.tb, 0, none⟩)) := (h.below ((Below.refl _ w).alloc (Nat.le_refl _) _)).x0
  have hm := hidb (txmade_any b.xb _ b.tb x0)
  have H0 := ChI.start h
  obtain ⟨f0, f1, f2, f3, f4⟩ := H0.facts
  obtain ⟨Z, hZ⟩ : ∃ Z, Z = w.heap.size := ⟨_, rfl⟩
  have hsz : ((w.alloc (.cells #[.pointer (some ⟨b.xb, 0, none⟩)] 27)).alloc (.cells #[.slice none 0 0] 47)).heap.size = w.heap.size + 1 + 1 := by simp
  have hr := hidb (rise_call b.sb [] ((w.alloc (.cells #[.pointer (some ⟨b.xb, 0, none⟩)] 27)).alloc (.cells #[.slice none 0 0] 47)))
  have HI0 := hidb H0
  have hx := h.lts b.xb (by simp [TxB.l])
  clear H0
  gi_wp2_with (first
    | (refine ⟨trivial, ?_⟩; gi_at_call 32; refine (callsIn_wide.2 hm.out).mono ?_; clear hm; rintro e w' ⟨rfl, rfl⟩)
    | (refine ⟨trivial, ?_⟩; gi_at_call 43; refine (callsIn_wide.2 hr.out).mono ?_; clear hr; rintro e w' ⟨rfl, rfl⟩)
    | fail)
  -- the world at the first loop
  obtain ⟨Wb, hWb⟩ : ∃ Wb, Wb = (w.alloc (.cells #[.pointer (some ⟨b.xb, 0, none⟩)] 27)).alloc (.cells #[.slice none 0 0] 47) := ⟨_, rfl⟩
  obtain ⟨Wc, hWc⟩ : ∃ Wc, Wc = (Wb.alloc (.cells #[.pointer (some ⟨b.sb, 0, none⟩)] 57)).alloc (.cells #[sv []] 9) := ⟨_, rfl⟩
  rw [← hWb] at HI0 f0 f1 f2 f3 f4 hsz
  have hBc : Below Wb.heap.size Wb Wc := by rw [hWc]; exact ((Below.refl _ Wb).alloc (Nat.le_refl _) _).alloc (by simp) _
  have HIc : Hid (ChI b L S D more Z w [] Wc) := hidb (by rw [hZ]; exact HI0.out.below hBc)
  have bx2 : Wc.heap[Z + 2]? = some (.cells #[.pointer (some ⟨b.sb, 0, none⟩)] 57 (0, 0)) := by
    rw [hWc, Below.heap_alloc _ _ _ (by simp; omega), show Z + 2 = Wb.heap.size by omega, heap_alloc_new]
  have bx3 : Wc.heap[Z + 3]? = some (.cells #[sv []] 9 (0, 0)) := by
    have := heap_alloc_new (Wb.alloc (.cells #[.pointer (some ⟨b.sb, 0, none⟩)] 57)) (.cells #[sv []] 9)
    rw [World.size_alloc, hsz] at this
    rw [hWc, show Z + 3 = w.heap.size + 1 + 1 + 1 by omega]
    exact this
  have hszc : Wc.heap.size = Z + 4 := by rw [hWc]; simp; omega
  rw [← hWb, ← hWc]
  clear hWb hWc HI0 hBc hsz f0 f1 f2 f3 f4 x0
  have hlt := h.lts
  have lsb := hlt b.sb (by simp [TxB.l])
  have lsg := hlt b.sg (by simp [TxB.l])
  rw [← hZ]
  have HZ := hidb hZ
  have lsbZ : b.sb < Z := by omega
  have lsgZ : b.sg < Z := by omega
  clear hZ
  refine range_feeds2 (Kp := KpS fun k => k = Z + 1 + 1 ∨ k = Z + 1 + 1 + 1 ∨ k = b.sb ∨ k = b.sg) (xs := S) (encs := fun x : Bt × Bt => #[sv x.1, sv x.2]) rfl (by decide) (gf := 60) (lb := #[.pointer (some ⟨Z + 1 + 1, 0, none⟩), .pointer (some ⟨Z + 1 + 1 + 1, 0, none⟩)]) rfl trivial (enters_of Try.func60 (by kernel_rfl) rfl)
    (fun W hW => by
      have hI := HIc.out.below hW
      have := rise_feeds 2 (Z + 1 + 1) (Z + 1 + 1 + 1) b.sb b.sg S [] W (by rw [hW.cell (p := ⟨Z + 2, 0, none⟩) (by show Z + 2 < _; omega)]; exact Lib.cell_of_heap bx2 0) (by rw [hW.cell (p := ⟨Z + 3, 0, none⟩) (by show Z + 3 < _; omega)]; exact Lib.cell_of_heap bx3 0) hI.tx.s
      rw [fromL_nil] at this
      exact this)
    (fun h k => h.trans k) (fun W l o hl k hk => World.putObj_heap_other (by rcases hk with rfl | rfl | rfl | rfl <;> omega)) (fun _ => rfl)
    (fun pre W => ChI b L S D more Z w (chgA L pre) W ∧ W.heap[Z + 2]? = some (.cells #[.pointer (some ⟨b.sb, 0, none⟩)] 57 (0, 0)) ∧ W.heap[Z + 3]? = some (.cells #[sv []] 9 (0, 0))) (fun _ _ _ => False) (fun pre X Y row h hg hrow => ⟨ChI.own (B := Wc.heap.size) (by omega) (chgA L pre) X Y row h.1 hg hrow, (hg.block _ (heap_ltb h.2.1) fun e => by have := (hrow _ e.symm).1; omega).trans h.2.1, (hg.block _ (heap_ltb h.2.2) fun e => by have := (hrow _ e.symm).1; omega).trans h.2.2⟩) (fun c pre X Y row h _ _ => h) ⟨HIc.out, bx2, bx3⟩
    (fun x => { tmps := #[.pointer (some ⟨b.xb, 0, none⟩), .pointer (some ⟨Z, 0, none⟩), .slice none 0 0, .pointer (some ⟨Z + 1, 0, none⟩), sv x.1, sv x.2, undef, undef, undef, .pointer (some ⟨b.xb, 0, none⟩), .bool true, .bool false, .pointer (some ⟨b.xb, 0, none⟩), .pointer (some ⟨b.xb, 0, none⟩), .pointer (some ⟨b.xb, 1, none⟩), .pointer (some ⟨b.cb, 0, none⟩), .pointer (some ⟨b.cb, 0, none⟩), .pointer (some ⟨b.cb, 0, none⟩), .pointer (some ⟨b.sb, 0, none⟩), .func (.func 60) #[] #[.pointer (some ⟨Z + 1 + 1, 0, none⟩), .pointer (some ⟨Z + 1 + 1 + 1, 0, none⟩)], sv x.1, sv x.2, undef, undef, undef, undef, undef, undef, undef, undef, undef, undef, undef, undef, undef, undef, undef, undef, undef, undef, undef, undef, undef, undef, undef, undef, undef, undef, undef, undef, undef, undef, undef, undef, undef, undef, undef, undef, undef, undef, undef, undef, undef, undef, undef, undef, undef, undef], defers := [] }) ?assign ?body ?done ?stop
  case assign =>
    intro l x W K hK
    gi_wp2
    exact hK
  case stop =>
    intro D' c pre W _ _ hf
    exact hf.elim
  case body =>
    rintro l pre x W ⟨hI, e2, e3⟩ hx
    obtain ⟨g0, g1, g2, g3, g4⟩ := hI.facts
    have HG0 := hidb (get_t b.tb b.g L W x.1 hI.tx.t)
    have hsn := chgA_snoc L pre x
    have hpl : (chgA L pre).length ≤ S.length := by
      have h1 := List.length_filter_le (fun x => decide (getL L x.1 ≠ some x.2)) pre
      have h2 := hx.length_le
      simp only [List.length_append, List.length_cons, List.length_nil] at h2
      unfold chgA
      omega
    by_cases hsame : getL L x.1 = some x.2
    · rw [if_neg (by simpa using hsame), List.append_nil] at hsn
      rw [hsame] at HG0
      have HE : Hid (∀ M, KeepsFrom Wc.heap.size W (W.drewN M) ∧ (KpS fun k => k = Z + 1 + 1 ∨ k = Z + 1 + 1 + 1 ∨ k = b.sb ∨ k = b.sg) W (W.drewN M) ∧ ChI b L S D more Z w (chgA L (pre ++ [x])) (W.drewN M) ∧ (W.drewN M).heap[Z + 2]? = some (.cells #[.pointer (some ⟨b.sb, 0, none⟩)] 57 (0, 0)) ∧ (W.drewN M).heap[Z + 3]? = some (.cells #[sv []] 9 (0, 0))) := hidb fun M => ⟨⟨Nat.le_refl _, fun _ _ _ h _ => h⟩, fun _ _ => rfl, by rw [hsn]; exact hI.below (below_drewN (Below.refl _ W) M), e2, e3⟩
      clear hsn hI e2 e3 bx2 bx3 hpl hx
      obtain ⟨xk, xv⟩ := x
      simp only at HG0 HE hsame ⊢
      gi_wp2_with (first
        | (refine ⟨trivial, ?_⟩; gi_at_call 40; refine (CallsIn.inRound l (callsIn_wide.2 HG0.out)).mono ?_; clear HG0; rintro e w1 ⟨rfl, m1, rfl⟩)
        | fail)
      exact HE.out _
    · rw [if_pos hsame] at hsn
      obtain ⟨HL1, HL2⟩ := ch_b1 hpl hS
      obtain ⟨v, v1, v2⟩ := hI.bl
      obtain ⟨va, vc, rfl, hcl⟩ := row_form v2
      clear hcl
      obtain ⟨xk, xv⟩ := x
      obtain ⟨i0, hi, hz0, hz1, hz2⟩ := info_parts (show (Try.prog.info? 75).map (fun i => (i.zero, i.size, i.bytes)) = some (some (.agg #[.string ⟨#[]⟩, .string ⟨#[]⟩]), 2, 32) by kernel_rfl)
      have c1 := Lib.cell_of_heap v1 0
      have hsW : ∀ m1, Z + 2 ≤ ((W.drewN m1).alloc (.cells #[sv xk, sv xv] 75)).heap.size := fun m1 => by
        have := (hI.below (below_drewN (Below.refl W.heap.size W) m1)).siz
        simp only [World.size_alloc]
        omega
      have HR : Hid (∀ m1, ((W.drewN m1).alloc (.cells #[sv xk, sv xv] 75)).ownsRow (Z + 2) 75 2 (.slice va (chgA L pre).length vc) (chgA L pre).length (cellsP (chgA L pre))) := hidb fun m1 => row_below2 v2 ((below_drewN (Below.refl W.heap.size W) m1).alloc (Nat.le_refl _) _)
      have HN : Hid (∀ m1 j u, [sv xk, sv xv][j]? = some u → ((W.drewN m1).alloc (.cells #[sv xk, sv xv] 75)).cell? ((⟨W.heap.size, 0, none⟩ : Addr).add j) = some u) := hidb fun m1 => cells_newb (W.drewN m1) [sv xk, sv xv] 75 W.heap.size (by simp only [World.heap_drewN])
      have HO1 : ∀ u ∈ [sv xk, sv xv], u.oneCell' = true := by simp [Value.oneCell']
      have HP : Hid (∀ m1 v' w6, w6.ownsRow (Z + 2) 75 2 v' ((chgA L pre).length + 1) (cellsP (chgA L pre) ++ [sv xk, sv xv]) → Step ((W.drewN m1).alloc (.cells #[sv xk, sv xv] 75)) (.slice va (chgA L pre).length vc) w6 v' →
          (w6.cell? ⟨Z + 1, 0, none⟩ = some (.slice va (chgA L pre).length vc) ∧ w6.frozen? ⟨Z + 1, 0, none⟩ = false ∧ ∃ a n c, v' = .slice a n c) ∧ KeepsFrom Wc.heap.size W (w6.setCell ⟨Z + 1, 0, none⟩ v') ∧ (KpS fun k => k = Z + 1 + 1 ∨ k = Z + 1 + 1 + 1 ∨ k = b.sb ∨ k = b.sg) W (w6.setCell ⟨Z + 1, 0, none⟩ v') ∧ ChI b L S D more Z w (chgA L (pre ++ [(xk, xv)])) (w6.setCell ⟨Z + 1, 0, none⟩ v') ∧ (w6.setCell ⟨Z + 1, 0, none⟩ v').heap[Z + 2]? = some (.cells #[.pointer (some ⟨b.sb, 0, none⟩)] 57 (0, 0)) ∧ (w6.setCell ⟨Z + 1, 0, none⟩ v').heap[Z + 3]? = some (.cells #[sv []] 9 (0, 0))) := hidb fun m1 v' w6 hr hst => by
        have hd := below_drewN (Below.refl W.heap.size W) m1
        obtain ⟨p1, p2, p3, p4⟩ := ChI.push (x := (xk, xv)) (hI.below hd) v1 (row_below2 v2 hd) hr hst
        have n2 : (Value.slice va (chgA L pre).length vc).ownBlock ≠ some (Z + 2) := fun e => absurd (row_typed v2 e e2) (by decide)
        have n3 : (Value.slice va (chgA L pre).length vc).ownBlock ≠ some (Z + 3) := fun e => absurd (row_typed v2 e e3) (by decide)
        have nl : ∀ k < Z, (Value.slice va (chgA L pre).length vc).ownBlock ≠ some k := fun k hk e => by
          have := (row_cells v2 k e).1
          omega
        have hsz := hI.siz
        have k2 := p4 (Z + 2) (heap_ltb e2) (by omega) n2
        have k3 := p4 (Z + 3) (heap_ltb e3) (by omega) n3
        refine ⟨p1, ⟨(p3 0).1, fun k o _ => (p3 0).2 k o (Nat.zero_le _)⟩, ?_, by rw [hsn]; exact p2, k2.trans e2, k3.trans e3⟩
        rintro k (rfl | rfl | rfl | rfl)
        · exact k2
        · exact k3
        · exact p4 _ (by show b.sb < W.heap.size; omega) (by omega) (nl _ lsbZ)
        · exact p4 _ (by show b.sg < W.heap.size; omega) (by omega) (nl _ lsgZ)
      clear hI v1 v2 e2 e3 bx2 bx3 hsn
      cases hg : getL L xk with
      | none =>
        rw [hg] at HG0
        simp only [Option.getD_none, Option.isSome_none] at HG0
        gi_wp2_with (first
          | (gi_at_builtin; refine wpListIn_append_own_at _ rfl _ _ _ rfl (Z + 2) 75 i0 _ 2 32 Try.underlying47 hi hz0 hz1 hz2 rfl (by decide) (.slice va (chgA L pre).length vc) _ _ rfl (HR.out m1) ⟨W.heap.size, 0, none⟩ 1 1 [sv xk, sv xv] rfl rfl (HN.out m1) HO1 HL1 HL2 (hsW m1) ?_; intro v' w6 hr6 hg6 _ hat6; obtain ⟨⟨q1, q2, qa, qn, qc, rfl⟩, q3⟩ := HP.out m1 v' w6 hr6 ⟨hg6, hat6.imp id fun e => ⟨_, e, Nat.le_refl _⟩⟩; have Q3 := hidb q3; clear q3 hr6 hg6 hat6 HP HR)
          | (refine ⟨trivial, ?_⟩; gi_at_call 40; refine (CallsIn.inRound l (callsIn_wide.2 HG0.out)).mono ?_; clear HG0; rintro e w1 ⟨rfl, m1, rfl⟩)
          | fail)
        exact Q3.out
      | some u =>
        have hne : u ≠ xv := fun e => hsame (by rw [hg, e])
        rw [hg] at HG0
        simp only [Option.getD_some, Option.isSome_some] at HG0
        skip
        gi_wp2_with (first
          | (gi_at_builtin; refine wpListIn_append_own_at _ rfl _ _ _ rfl (Z + 2) 75 i0 _ 2 32 Try.underlying47 hi hz0 hz1 hz2 rfl (by decide) (.slice va (chgA L pre).length vc) _ _ rfl (HR.out m1) ⟨W.heap.size, 0, none⟩ 1 1 [sv xk, sv xv] rfl rfl (HN.out m1) HO1 HL1 HL2 (hsW m1) ?_; intro v' w6 hr6 hg6 _ hat6; obtain ⟨⟨q1, q2, qa, qn, qc, rfl⟩, q3⟩ := HP.out m1 v' w6 hr6 ⟨hg6, hat6.imp id fun e => ⟨_, e, Nat.le_refl _⟩⟩; have Q3 := hidb q3; clear q3 hr6 hg6 hat6 HP HR)
          | (refine ⟨trivial, ?_⟩; gi_at_call 40; refine (CallsIn.inRound l (callsIn_wide.2 HG0.out)).mono ?_; clear HG0; rintro e w1 ⟨rfl, m1, rfl⟩)
          | fail)
        exact Q3.out
        rename_i hh
        exact absurd (by simpa using hh) hne
  case done =>
    rintro D1 W hD ⟨hI, z1, z2⟩ hK
    obtain ⟨g0, g1, g2, g3, g4⟩ := hI.facts
    have hr2 := hidb (rise_call b.wb [] W)
    have HI2 := hidb hI
    have hsiz := hI.siz
    clear hI bx2 bx3 z1 z2
    gi_wp2_with (first
      | (refine ⟨trivial, ?_⟩; gi_at_call 43; refine (callsIn_wide.2 hr2.out).mono ?_; clear hr2; rintro e w' ⟨rfl, rfl⟩)
      | fail)
    have lwb : b.wb < Z := HI2.out.lt b.wb (by simp [TxB.l])
    have lwg : b.wg < Z := HI2.out.lt b.wg (by simp [TxB.l])
    have hD1 : D1 < W.heap.size := (Array.getElem?_eq_some_iff.1 hK).1
    obtain ⟨Y, hY⟩ : ∃ Y, Y = W.heap.size := ⟨_, rfl⟩
    obtain ⟨We, hWe⟩ : ∃ We, We = (W.alloc (.cells #[.pointer (some ⟨b.wb, 0, none⟩)] 57)).alloc (.cells #[sv []] 9) := ⟨_, rfl⟩
    have hBe : Below W.heap.size W We := by rw [hWe]; exact ((Below.refl _ W).alloc (Nat.le_refl _) _).alloc (by simp) _
    have HIe : Hid (ChI b L S D more Z w (chgA L S ++ chgB L []) We) := hidb (by rw [show chgA L S ++ chgB L [] = chgA L S by simp [chgB]]; exact HI2.out.below hBe)
    have by0 : We.heap[Y]? = some (.cells #[.pointer (some ⟨b.wb, 0, none⟩)] 57 (0, 0)) := by
      rw [hWe, Below.heap_alloc _ _ _ (by simp; omega), hY, heap_alloc_new]
    have by1 : We.heap[Y + 1]? = some (.cells #[sv []] 9 (0, 0)) := by
      have := heap_alloc_new (W.alloc (.cells #[.pointer (some ⟨b.wb, 0, none⟩)] 57)) (.cells #[sv []] 9)
      rw [World.size_alloc] at this
      rw [hWe, hY]
      exact this
    have hKe : We.heap[D1]? = some (.deferred (some [])) := (hBe.block _ hD1).trans hK
    have hsze : We.heap.size = Y + 2 := by rw [hWe]; simp; omega
    have hD1Y : D1 < Y := by omega
    have hZY : Z + 2 ≤ Y := by omega
    rw [← hWe, ← hY]
    clear hWe hBe hY hK hD1 hsiz HI2 g0 g1 g2 g3 g4
    refine range_feeds2 (Kp := KpS fun k => k = Y ∨ k = Y + 1 ∨ k = b.wb ∨ k = b.wg) (xs := D) (encs := fun x : Bt × Bt => #[sv x.1, sv x.2]) rfl (by decide) (gf := 60) (lb := #[.pointer (some ⟨Y, 0, none⟩), .pointer (some ⟨Y + 1, 0, none⟩)]) rfl trivial (enters_of Try.func60 (by kernel_rfl) rfl)
      (fun W hW => by
        have hI := HIe.out.below hW
        have := rise_feeds 2 Y (Y + 1) b.wb b.wg D [] W (by rw [hW.cell (p := ⟨Y, 0, none⟩) (by show Y < _; omega)]; exact Lib.cell_of_heap by0 0) (by rw [hW.cell (p := ⟨Y + 1, 0, none⟩) (by show Y + 1 < _; omega)]; exact Lib.cell_of_heap by1 0) hI.tx.d
        rw [fromL_nil] at this
        exact this)
      (fun h k => h.trans k) (fun W l o hl k hk => World.putObj_heap_other (by rcases hk with rfl | rfl | rfl | rfl <;> omega)) (fun _ => rfl)
      (fun pre W => ChI b L S D more Z w (chgA L S ++ chgB L pre) W ∧ W.heap[Y]? = some (.cells #[.pointer (some ⟨b.wb, 0, none⟩)] 57 (0, 0)) ∧ W.heap[Y + 1]? = some (.cells #[sv []] 9 (0, 0)) ∧ W.heap[D1]? = some (.deferred (some []))) (fun _ _ _ => False) (fun pre X Y' row h hg hrow => ⟨ChI.own (B := We.heap.size) (by omega) _ X Y' row h.1 hg hrow, (hg.block _ (heap_ltb h.2.1) fun e => by have := (hrow _ e.symm).1; omega).trans h.2.1, (hg.block _ (heap_ltb h.2.2.1) fun e => by have := (hrow _ e.symm).1; omega).trans h.2.2.1, (hg.block _ (heap_ltb h.2.2.2) fun e => by have := (hrow _ e.symm).1; omega).trans h.2.2.2⟩) (fun c pre X Y row h _ _ => h) ⟨HIe.out, by0, by1, hKe⟩
      (fun x => { tmps := #[.pointer (some ⟨b.xb, 0, none⟩), .pointer (some ⟨Z, 0, none⟩), .slice none 0 0, .pointer (some ⟨Z + 1, 0, none⟩), undef, undef, undef, undef, sv x.1, .pointer (some ⟨b.xb, 0, none⟩), .bool true, .bool false, .pointer (some ⟨b.xb, 0, none⟩), .pointer (some ⟨b.xb, 0, none⟩), .pointer (some ⟨b.xb, 1, none⟩), .pointer (some ⟨b.cb, 0, none⟩), .pointer (some ⟨b.cb, 0, none⟩), .pointer (some ⟨b.cb, 0, none⟩), .pointer (some ⟨b.sb, 0, none⟩), .func (.func 60) #[] #[.pointer (some ⟨Z + 1 + 1, 0, none⟩), .pointer (some ⟨Z + 1 + 1 + 1, 0, none⟩)], undef, undef, undef, undef, undef, undef, undef, undef, undef, undef, undef, undef, undef, undef, undef, undef, undef, undef, undef, undef, undef, undef, undef, undef, .pointer (some ⟨b.xb, 0, none⟩), .pointer (some ⟨b.xb, 0, none⟩), .pointer (some ⟨b.xb, 1, none⟩), .pointer (some ⟨b.cb, 0, none⟩), .pointer (some ⟨b.cb, 0, none⟩), .pointer (some ⟨b.cb, 1, none⟩), .pointer (some ⟨b.wb, 0, none⟩), .func (.func 60) #[] #[.pointer (some ⟨Y, 0, none⟩), .pointer (some ⟨Y + 1, 0, none⟩)], sv x.1, sv x.2, undef, undef, undef, undef, undef, undef, undef, undef, undef, undef, undef, undef, undef, undef], defers := [] }) ?assign ?body ?done ?stop
    case assign =>
      intro l x W K hK
      gi_wp2
      exact hK
    case stop =>
      intro D' c pre W _ _ hf
      exact hf.elim
    case body =>
      rintro l pre ⟨xk, xv⟩ W ⟨hI, e2, e3, e4⟩ hx
      obtain ⟨g0, g1, g2, g3, g4⟩ := hI.facts
      have HG0 := hidb (has_t b.tb b.g L W xk hI.tx.t)
      have hsn := chgB_snoc L pre (xk, xv)
      have hpl : (chgA L S ++ chgB L pre).length ≤ S.length + D.length := ch_b2 hx
      generalize hac : chgA L S ++ chgB L pre = acc at hI hpl
      cases hg : getL L xk with
      | none =>
        simp only [hg, Option.isSome_none, Bool.false_eq_true, if_false, List.append_nil] at hsn
        rw [hg] at HG0
        simp only [Option.isSome_none] at HG0
        have HE : Hid (∀ M, KeepsFrom We.heap.size W (W.drewN M) ∧ (KpS fun k => k = Y ∨ k = Y + 1 ∨ k = b.wb ∨ k = b.wg) W (W.drewN M) ∧ ChI b L S D more Z w (chgA L S ++ chgB L (pre ++ [(xk, xv)])) (W.drewN M) ∧ (W.drewN M).heap[Y]? = some (.cells #[.pointer (some ⟨b.wb, 0, none⟩)] 57 (0, 0)) ∧ (W.drewN M).heap[Y + 1]? = some (.cells #[sv []] 9 (0, 0)) ∧ (W.drewN M).heap[D1]? = some (.deferred (some []))) := hidb fun M => ⟨⟨Nat.le_refl _, fun _ _ _ h _ => h⟩, fun _ _ => rfl, by rw [hsn, hac]; exact hI.below (below_drewN (Below.refl _ W) M), e2, e3, e4⟩
        clear hsn hI e2 e3 e4 by0 by1 hpl hx hKe
        gi_wp2_with (first
          | (refine ⟨trivial, ?_⟩; gi_at_call 39; refine (CallsIn.inRound l (callsIn_wide.2 HG0.out)).mono ?_; clear HG0; rintro e w1 ⟨rfl, m1, rfl⟩)
          | fail)
        exact HE.out _
      | some u =>
        simp only [hg, Option.isSome_some, if_true] at hsn
        rw [hg] at HG0
        simp only [Option.isSome_some] at HG0
        obtain ⟨HL1, HL2⟩ := ch_b1 (d := 0) hpl hS
        obtain ⟨v, v1, v2⟩ := hI.bl
        obtain ⟨va, vc, rfl, hcl⟩ := row_form v2
        clear hcl
        obtain ⟨i0, hi, hz0, hz1, hz2⟩ := info_parts (show (Try.prog.info? 75).map (fun i => (i.zero, i.size, i.bytes)) = some (some (.agg #[.string ⟨#[]⟩, .string ⟨#[]⟩]), 2, 32) by kernel_rfl)
        have c1 := Lib.cell_of_heap v1 0
        have hsW : ∀ m1, Z + 2 ≤ ((W.drewN m1).alloc (.cells #[sv xk, sv []] 75)).heap.size := fun m1 => by
          have := (hI.below (below_drewN (Below.refl W.heap.size W) m1)).siz
          simp only [World.size_alloc]
          omega
        have HR : Hid (∀ m1, ((W.drewN m1).alloc (.cells #[sv xk, sv []] 75)).ownsRow (Z + 2) 75 2 (.slice va acc.length vc) acc.length (cellsP acc)) := hidb fun m1 => row_below2 v2 ((below_drewN (Below.refl W.heap.size W) m1).alloc (Nat.le_refl _) _)
        have HN : Hid (∀ m1 j u, [sv xk, sv []][j]? = some u → ((W.drewN m1).alloc (.cells #[sv xk, sv []] 75)).cell? ((⟨W.heap.size, 0, none⟩ : Addr).add j) = some u) := hidb fun m1 => cells_newb (W.drewN m1) [sv xk, sv []] 75 W.heap.size (by simp only [World.heap_drewN])
        have HO1 : ∀ u ∈ [sv xk, sv []], u.oneCell' = true := by simp [Value.oneCell']
        have HP : Hid (∀ m1 v' w6, w6.ownsRow (Z + 2) 75 2 v' (acc.length + 1) (cellsP acc ++ [sv xk, sv []]) → Step ((W.drewN m1).alloc (.cells #[sv xk, sv []] 75)) (.slice va acc.length vc) w6 v' →
            (w6.cell? ⟨Z + 1, 0, none⟩ = some (.slice va acc.length vc) ∧ w6.frozen? ⟨Z + 1, 0, none⟩ = false ∧ ∃ a n c, v' = .slice a n c) ∧ KeepsFrom We.heap.size W (w6.setCell ⟨Z + 1, 0, none⟩ v') ∧ (KpS fun k => k = Y ∨ k = Y + 1 ∨ k = b.wb ∨ k = b.wg) W (w6.setCell ⟨Z + 1, 0, none⟩ v') ∧ ChI b L S D more Z w (chgA L S ++ chgB L (pre ++ [(xk, xv)])) (w6.setCell ⟨Z + 1, 0, none⟩ v') ∧ (w6.setCell ⟨Z + 1, 0, none⟩ v').heap[Y]? = some (.cells #[.pointer (some ⟨b.wb, 0, none⟩)] 57 (0, 0)) ∧ (w6.setCell ⟨Z + 1, 0, none⟩ v').heap[Y + 1]? = some (.cells #[sv []] 9 (0, 0)) ∧ (w6.setCell ⟨Z + 1, 0, none⟩ v').heap[D1]? = some (.deferred (some []))) := hidb fun m1 v' w6 hr hst => by
          have hd := below_drewN (Below.refl W.heap.size W) m1
          obtain ⟨p1, p2, p3, p4⟩ := ChI.push (x := (xk, [])) (hI.below hd) v1 (row_below2 v2 hd) hr hst
          have n2 : (Value.slice va acc.length vc).ownBlock ≠ some Y := fun e => absurd (row_typed v2 e e2) (by decide)
          have n3 : (Value.slice va acc.length vc).ownBlock ≠ some (Y + 1) := fun e => absurd (row_typed v2 e e3) (by decide)
          have n4 : (Value.slice va acc.length vc).ownBlock ≠ some D1 := fun e => by
            obtain ⟨_, o, ho, hc⟩ := row_cells v2 D1 e
            rw [e4] at ho
            cases ho
            cases hc
          have nl : ∀ k < Z, (Value.slice va acc.length vc).ownBlock ≠ some k := fun k hk e => by
            have := (row_cells v2 k e).1
            omega
          have hsz := hI.siz
          have k2 := p4 Y (heap_ltb e2) (by omega) n2
          have k3 := p4 (Y + 1) (heap_ltb e3) (by omega) n3
          have k4 := p4 D1 (heap_ltb e4) (by omega) n4
          refine ⟨p1, ⟨(p3 0).1, fun k o _ => (p3 0).2 k o (Nat.zero_le _)⟩, ?_, by rw [hsn, ← List.append_assoc, hac]; exact p2, k2.trans e2, k3.trans e3, k4.trans e4⟩
          rintro k (rfl | rfl | rfl | rfl)
          · exact k2
          · exact k3
          · exact p4 _ (by show b.wb < W.heap.size; omega) (by omega) (nl _ lwb)
          · exact p4 _ (by show b.wg < W.heap.size; omega) (by omega) (nl _ lwg)
        clear hI v1 v2 e2 e3 e4 by0 by1 hsn hKe
        gi_wp2_with (first
          | (gi_at_builtin; refine wpListIn_append_own_at _ rfl _ _ _ rfl (Z + 2) 75 i0 _ 2 32 Try.underlying47 hi hz0 hz1 hz2 rfl (by decide) (.slice va acc.length vc) _ _ rfl (HR.out m1) ⟨W.heap.size, 0, none⟩ 1 1 [sv xk, sv []] rfl rfl (HN.out m1) HO1 HL1 HL2 (hsW m1) ?_; intro v' w6 hr6 hg6 _ hat6; obtain ⟨⟨q1, q2, qa, qn, qc, rfl⟩, q3⟩ := HP.out m1 v' w6 hr6 ⟨hg6, hat6.imp id fun e => ⟨_, e, Nat.le_refl _⟩⟩; have Q3 := hidb q3; clear q3 hr6 hg6 hat6 HP HR)
          | (refine ⟨trivial, ?_⟩; gi_at_call 39; refine (CallsIn.inRound l (callsIn_wide.2 HG0.out)).mono ?_; clear HG0; rintro e w1 ⟨rfl, m1, rfl⟩)
          | fail)
        exact Q3.out
    case done =>
      rintro D2 W hD2 ⟨hI, z1, z2, hKD⟩ hK
      obtain ⟨v, v1, v2⟩ := hI.bl
      obtain ⟨va, vc, rfl, hcl⟩ := row_form v2
      clear hcl z1 z2
      have hpl : (chgA L S ++ chgB L D).length ≤ S.length + D.length := ch_b3
      obtain ⟨HL1, HL2⟩ := ch_b1 (d := 0) hpl hS
      have c1 := Lib.cell_of_heap v1 0
      generalize hac : chgA L S ++ chgB L D = acc at hI hpl HL1 HL2 v1 v2 c1
      have HS := hidb (hsort W (Z + 2) _ acc (Nat.le_trans (Nat.mul_le_mul (Nat.le_succ _) (Nat.le_refl 32)) HL2) v2)
      have HF : Hid (∀ w', W.grownBy w' (Value.slice va acc.length vc).ownBlock → w'.cell? ⟨Z + 1, 0, none⟩ = some (.slice va acc.length vc)) := hidb fun w' hg => by
        have hz := hI.siz
        exact Lib.cell_of_heap ((hg.block _ (by omega) fun e => by have := (row_cells v2 _ e.symm).1; omega).trans v1) 0
      have HA := hidb (And.intro hI (And.intro v2 (And.intro hKD hK)))
      clear hI v1 v2 hKD hK HIe by0 by1 hKe HL1 HL2 hpl
      gi_wp2_with (first
        | (refine ⟨trivial, ?_⟩; gi_at_call 44; refine (callsIn_wide.2 HS.out).mono ?_; clear HS; rintro e w1 ⟨rfl, hs1⟩; have cc := HF.out w1 hs1.out.1; clear HF)
        | fail)
      have hz := HA.out.1.siz
      obtain ⟨hg1, acc', hp, hso, hr1⟩ := hs1.out
      have nd : ∀ k, W.heap[k]? = some (.deferred (some [])) → (Value.slice va acc.length vc).ownBlock ≠ some k := fun k hk e => by
        obtain ⟨_, o, ho, hc⟩ := row_cells HA.out.2.1 k e
        rw [hk] at ho
        cases ho
        cases hc
      have nl : ∀ k < Z + 2, (Value.slice va acc.length vc).ownBlock ≠ some k := fun k hk e => by
        have := (row_cells HA.out.2.1 k e).1
        omega
      have m2 : D2 < W.heap.size := heap_ltb HA.out.2.2.2
      have m1 : D1 < W.heap.size := heap_ltb HA.out.2.2.1
      have hD12 : D1 < D2 := by omega
      have hDZ : Z + 4 ≤ D1 := by omega
      have x2 : w1.heap[D2]? = some (.deferred (some [])) := (hg1.block _ m2 fun e => nd _ HA.out.2.2.2 e.symm).trans HA.out.2.2.2
      have x1 : w1.heap[D1]? = some (.deferred (some [])) := (hg1.block _ m1 fun e => nd _ HA.out.2.2.1 e.symm).trans HA.out.2.2.1
      have x3 : (w1.putObj D2 (.deferred none)).heap[D1]? = some (.deferred (some [])) := (World.putObj_heap_other (by omega)).trans x1
      have hsz1 := hg1.size
      have hend : ChEnd b L S D more w (.returned (.slice va acc.length vc)) ((w1.putObj D2 (.deferred none)).putObj D1 (.deferred none)) := by
        have blk : ∀ i < Z + 2, i < W.heap.size → ((w1.putObj D2 (.deferred none)).putObj D1 (.deferred none)).heap[i]? = W.heap[i]? := fun i hi hs => (World.putObj_heap_other (by omega)).trans ((World.putObj_heap_other (by omega)).trans (hg1.block i hs fun e => nl i hi e.symm))
        refine ⟨_, acc', rfl, by rw [hac]; exact hp, hso, ?_, ?_, ?_⟩
        · rw [← HZ.out]
          have r1 := World.ownsRow.kept hr1 (grownBy_putObj' w1 D2 (.deferred none)) (.inr fun e => nd _ HA.out.2.2.2 e)
          exact World.ownsRow.kept r1 (grownBy_putObj' _ D1 (.deferred none)) (.inr fun e => nd _ HA.out.2.2.1 e)
        · exact HA.out.1.tx.keepAll fun i hi => blk i (by have := HA.out.1.lt i hi; omega) (HA.out.1.tx.lts i hi)
        · rw [← HZ.out]
          refine ((HA.out.1.bel.grown hg1 (by omega) fun j ej => ?_).grown (grownBy_putObj' w1 D2 (.deferred none)) (by omega) fun j ej => ?_).grown (grownBy_putObj' _ D1 (.deferred none)) (by simp; omega) fun j ej => ?_
          · have := (row_cells HA.out.2.1 j ej).1
            omega
          · cases ej
            omega
          · cases ej
            omega
      refine ⟨by simp, .inl ⟨_, _, rfl, run_takeDeferred x2, ?_⟩⟩
      refine ⟨by simp, .inl ⟨_, _, rfl, run_takeDeferred x3, ?_⟩⟩
      refine ⟨_, ?_, hend⟩
      exact results_tmp11 rfl _ _ _ _ rfl
end Go.Proofs.Ytcjakgogdbfagaa
