/- Layer 8: the document's Deep. As OBase, for the rows of layer 4 (without value). What the bound on the arguments' bulk gives. -/
import Derived.Test.YtikomfbpaimnmaaXU
import Derived.Test.YtikomfbpaimnmaaRows
import Derived.Test.YtikomfbpaimnmaaCB
import Derived.ProofKit
import Derived.OpenShut
import Derived.Deep.DeepHandedRow
import Derived.Lib.LaidTab
import Derived.Lib.SmallJoins
import Derived.SizedLaws
import Derived.Deep.SlicePairs
import Derived.ChangeMaps5
namespace Go.Proofs.Ytikomfbpaimnmaa
open Go.RowKit
/-- As far as the first i of the order: how deep they are. -/
def DpI (g : Nat → List Nat) (o : List Nat) (i : Nat) (d : Nat → Nat) : Prop := (∀ x ∈ o.take i, d x = mx (fun c => some (d c)) (g x) + 1) ∧ ∀ x, d x ≤ i
theorem dpI_zero (g : Nat → List Nat) (o : List Nat) : DpI g o 0 (fun _ => 0) := ⟨by simp, fun _ => Nat.le_refl _⟩
def dput (d : Nat → Nat) (f v : Nat) : Nat → Nat := fun x => if x = f then v else d x
theorem mxK_le {d : Nat → Nat} {i : Nat} (h : ∀ x, d x ≤ i) (l : List Nat) : mx (fun c => some (d c)) l ≤ i := mx_le l 0 (Nat.zero_le _) fun c _ => h c
theorem dpI_step {n : Nat} {g : Nat → List Nat} {o : List Nat} {i : Nat} {d : Nat → Nat} (ht : Told n g o) (hi : i < o.length) (h : DpI g o i d) : DpI g o (i + 1) (dput d o[i] (mx (fun c => some (d c)) (g o[i]) + 1)) := by
  obtain ⟨t1, t2, t3⟩ := ht i hi
  have ne : ∀ c, c ∈ o.take i → dput d o[i] (mx (fun c => some (d c)) (g o[i]) + 1) c = d c := fun c hc => by
    unfold dput
    rw [if_neg (fun e => t2 (by rw [← e]; exact hc))]
  refine ⟨fun x hx => ?_, fun x => ?_⟩
  · rw [List.take_succ_eq_append_getElem hi] at hx
    rcases List.mem_append.1 hx with e | e
    · rw [ne x e, h.1 x e]
      congr 1
      obtain ⟨j, hj, ej⟩ := List.mem_take_iff_getElem.1 e
      have hcj := (ht j (by omega)).2.2
      refine mx_congr fun c hc => ?_
      rw [ne c]
      have := hcj c (by rw [ej]; exact hc)
      exact (List.take_sublist_take_left (by omega)).subset this
    · obtain rfl := List.mem_singleton.1 e
      have e2 : dput d o[i] (mx (fun c => some (d c)) (g o[i]) + 1) o[i] = mx (fun c => some (d c)) (g o[i]) + 1 := by simp [dput]
      rw [e2]
      congr 1
      exact mx_congr fun c hc => by rw [ne c (t3 c hc)]
  · unfold dput
    have := mxK_le h.2 (g o[i])
    have := h.2 x
    split <;> omega
theorem dpI_end {n : Nat} {g : Nat → List Nat} {o : List Nat} {d : Nat → Nat} (ht : Told n g o) (hl : o.length = n) (h : DpI g o n d) : DeepIs n g d := fun x hx => h.1 x (by rw [← hl, List.take_length]; exact told_all ht hl hx)
set_option maxRecDepth 100000 in
set_option maxHeartbeats 1000000 in
theorem rdeep_any (s : Scr) (V0 V1 : Value) (w : World) (hs : ScIs w.cell? s V0 V1) (hsf : s.fits) (hI64 : ∀ f ∈ s.funcs, ∀ x ∈ f.code, -9223372036854775808 ≤ x.2 ∧ x.2 ≤ 9223372036854775807) : Calls Try.prog 21 #[.agg #[V0, V1]] w (DeepEnd s w) := by
  obtain ⟨⟨a0, c0, rfl, n0⟩, ⟨a1, c1, rfl, n1⟩⟩ := hs
  have hs : ScIs w.cell? s (.slice a0 s.consts.length c0) (.slice a1 s.funcs.length c1) := ⟨⟨a0, c0, rfl, n0⟩, ⟨a1, c1, rfl, n1⟩⟩
  have b1 := (Below.refl _ w).alloc (Nat.le_refl _) (.cells #[.slice a0 s.consts.length c0, .slice a1 s.funcs.length c1] 25)
  have e0 := heap_alloc_new w (.cells #[.slice a0 s.consts.length c0, .slice a1 s.funcs.length c1] 25)
  have hG := rorder_any s _ _ (w.alloc (.cells #[.slice a0 s.consts.length c0, .slice a1 s.funcs.length c1] 25)) (hs.keep (below_keep b1)) hsf hI64
  by_cases hx : s.right = true ∧ ∃ o, ordS s.funcs.length (gF s) = some o
  · obtain ⟨hr, o, ho⟩ := hx
    obtain ⟨r1, r2, r3⟩ := right_calls hr
    obtain ⟨i1, i2, i3, i4⟩ := graph_inn s
    have hot := ord_told ho
    have HG : Hid (Calls Try.prog 19 #[.agg #[.slice a0 s.consts.length c0, .slice a1 s.funcs.length c1]] (w.alloc (.cells #[.slice a0 s.consts.length c0, .slice a1 s.funcs.length c1] 25)) fun e w1 => ∃ la lc, e = .returned (.tuple #[.slice la s.funcs.length lc, .int .i64 0]) ∧ w1.cell? ⟨w.heap.size, 0, none⟩ = some (.slice a0 s.consts.length c0) ∧ w1.cell? ⟨w.heap.size, 1, none⟩ = some (.slice a1 s.funcs.length c1) ∧ Hid (NsAt w1.cell? la (rowI o) ∧ Below w.heap.size w w1) ∧ Hid (Calls Try.prog 10 #[.agg #[.slice a0 s.consts.length c0, .slice a1 s.funcs.length c1]] w1 fun e w2 => ∃ ga gc, e = .returned (.tuple #[.slice ga s.funcs.length gc, .int .i64 0]) ∧ Hid (RsAt w2.cell? ga (rowsI (graphS s)) ∧ Below w1.heap.size w1 w2))) := hid7 (hG.mono fun e w1 ⟨h1, h2⟩ => by
      rw [if_pos hr, ho] at h2
      obtain ⟨la, lc, e1, h3⟩ := h2
      have bw := b1.trans (h1.mono b1.size)
      have e3 := (h1.block _ (heap_lt e0)).trans e0
      refine ⟨la, lc, by rw [e1, hot.1], Lib.cell_of_heap e3 0, Lib.cell_of_heap e3 1, hid7 ⟨h3, bw⟩, hid7 ((rgraph_any s _ _ w1 (hs.keep (below_keep bw)) hsf hI64).mono fun e w2 ⟨h4, h5⟩ => ?_)⟩
      rw [if_pos hr] at h4
      obtain ⟨ga, gc, e4, h6⟩ := h4
      exact ⟨ga, gc, e4, hid7 ⟨h6, h5⟩⟩)
    have HEnd : Hid (∀ W lb (d : Nat → Nat), Below w.heap.size w W → DeepIs s.funcs.length (gF s) d → (∀ x < s.funcs.length, d x ≤ 1000) → Fill W lb 3 s.funcs.length (fun j => .int .i64 (d j : Nat)) → DeepEnd s w (.returned (.tuple #[.slice (some ⟨lb, 0, none⟩) s.funcs.length s.funcs.length, .int .i64 0])) W) := hid7 fun W lb d h1 h2 h3 h4 => by
      refine ⟨h1, ?_⟩
      rw [if_pos hr, if_neg (by rw [ho]; simp)]
      refine ⟨_, _, d, rfl, .inr ⟨lb, 0, rfl, fun j hj => ?_⟩, h2, h3⟩
      have hj2 : j < s.funcs.length := by simpa [deepL] using hj
      rw [Nat.zero_add, h4.cell hj2]
      simp [deepL]
    have HI := hid7 (And.intro hot (And.intro i1 (And.intro i3 i4)))
    obtain ⟨G, hGe⟩ : ∃ G, G = graphS s := ⟨_, rfl⟩
    obtain ⟨n, hfe⟩ : ∃ fl, fl = s.funcs.length := ⟨_, rfl⟩
    unfold gF at HI HEnd
    rw [← hfe, ← hGe] at HG HI HEnd
    rw [← hfe] at r1 ⊢
    have HMk : Hid (∀ W : World, ∃ W2, (Instr.makeSlice 36 (.int .i64 (n : Int)) (.int .i64 (n : Int))).run Try.prog W = .ok (.slice (some ⟨W.heap.size, 0, none⟩) n n) W2 ∧ Hid (Fill W2 W.heap.size 3 n (fun _ => .int .i64 0) ∧ Below W.heap.size W W2)) := hid7 fun W => by
      obtain ⟨W2, h1, h2, h3⟩ := made8 W 36 3 (.int .i64 0) 8 n Try.underlying36 (by kernel_rfl) rfl (by omega) (by omega)
      exact ⟨W2, h1, hid7 ⟨h2, h3⟩⟩
    generalize s.consts.length = cl at HG ⊢
    clear hG hr r2 r3 i1 i2 i3 i4 n0 n1 hsf hfe b1 hI64 hGe hs e0 ho hot
    go_enter Try.func21, Try.ntmps21
    go_wp2_with (first
      | (go_at_call 19; refine HG.out.mono ?_; clear HG; rintro e w1 ⟨la, lc, rfl, d0, d1, K1, H1⟩)
      | (go_at_call 10; refine H1.out.mono ?_; clear H1; rintro e w2 ⟨ga, gc, rfl, K2⟩; obtain ⟨w3, hm3, K3⟩ := HMk.out w2; clear HMk)
      | fail)
    have hGl := HI.out.2.2.2
    have HRow : Hid (∀ W, Below w2.heap.size w2 W → ∀ i < n, ∃ gb go aj cj, ga = some ⟨gb, go, none⟩ ∧ W.cell? ⟨gb, go + i, none⟩ = some (.slice aj (gOf G i).length cj) ∧ NsAt (lowC w2.heap.size W) aj (rowI (gOf G i)) ∧ (gOf G i).length ≤ 16) := hid7 fun W hW i hi => by
      obtain ⟨gb, go, aj, cj, h1, h2, h3, h4⟩ := row_at (K2.out.1.low hW) (f := i) (by omega)
      refine ⟨gb, go, aj, cj, h1, h3, h4, ?_⟩
      have : (gOf G i) ∈ G := by
        unfold gOf
        rw [List.getD_eq_getElem?_getD, List.getElem?_eq_getElem (by omega)]
        exact List.getElem_mem _
      have := HI.out.2.2.1 _ this
      omega
    have HO : Hid (∀ W, Below w2.heap.size w2 W → NsAt (lowC w2.heap.size W) la (rowI o)) := hid7 fun W hW => K1.out.1.keep fun x v hx => by
      have h1 := K2.out.2.cell (World.block_lt_of_cell? w1 x hx)
      have h2 := h1.trans hx
      exact lowC_mk (World.block_lt_of_cell? w2 x h2) ((hW.cell (World.block_lt_of_cell? w2 x h2)).trans h2)
    have HIn : Hid (Inn n (gOf G) ∧ o.length = n ∧ Told n (gOf G) o) := hid7 ⟨HI.out.2.1, HI.out.1⟩
    have B2 := hid7 (K1.out.2.trans (K2.out.2.mono K1.out.2.size))
    clear hm3 HI hGl
    obtain ⟨g, hg⟩ : ∃ g, g = gOf G := ⟨_, rfl⟩
    rw [← hg] at HEnd HRow HIn
    clear hg K1 K2
    go_loopw [9] (fun iv wr => ∃ (i : Nat) (d : Nat → Nat), iv = .int .i64 i ∧ i ≤ n ∧ Hid (Fill wr w2.heap.size 3 n (fun j => .int .i64 (d j : Nat)) ∧ DpI g o i d ∧ Below w2.heap.size w2 wr)) (fun iv _ => n - (intOf iv).toNat)
    case atStart => exact ⟨0, fun _ => 0, rfl, Nat.zero_le _, hid7 ⟨K3.out.1, dpI_zero g o, K3.out.2⟩⟩
    case round =>
      obtain ⟨i, d, rfl, hi, HL⟩ := hrel
      obtain ⟨wo, rfl⟩ : ∃ wo, wo = wr := ⟨_, rfl⟩
      clear K3
      by_cases hin : i < n
      · have hio : i < o.length := by rw [HIn.out.2.1]; exact hin
        obtain ⟨ob, oo, eoa, _, hof⟩ := row_cell (HO.out wo HL.out.2.2) hio
        have hfn := (HIn.out.2.2 i hio).1
        obtain ⟨gb, go, aj, cj, ega, hrow, hns, hlen⟩ := HRow.out wo HL.out.2.2 o[i] hfn
        have hD := dpI_step HIn.out.2.2 hio HL.out.2.1
        subst eoa ega
        have HNs := hid7 hns
        have HFl : Hid (∀ c < n, wo.cell? ⟨w2.heap.size, c, none⟩ = some (.int .i64 (d c : Nat))) := hid7 fun c hc => HL.out.1.cell hc
        have hfz := HL.out.1.frozen o[i]
        have hfo := HL.out.1.cell hfn
        have HCn : Hid (∀ c ∈ g o[i], c < n) := hid7 fun c hc => HIn.out.1 _ hfn c hc
        have HDb : Hid (∀ l, mx (fun c => some (d c)) l ≤ 16) := hid7 fun l => by have := mxK_le HL.out.2.1.2 l; omega
        have HDd : Hid (∀ x, d x ≤ 16) := hid7 fun x => by have := HL.out.2.1.2 x; omega
        generalize o[i] = f at *
        obtain ⟨gl, hgl⟩ : ∃ gl, gl = (g f).length := ⟨_, rfl⟩
        have HGL := hid7 hgl
        rw [← hgl] at hrow hlen
        have HDs := hid7 hD
        clear hns hgl hD HO HRow HIn HEnd hio
        go_wp2_with fail
        go_loopw [10, 11] (fun nv qv wr => ∃ (q nn : Nat), nv = .int .i64 nn ∧ qv = .int .i64 q ∧ q ≤ gl ∧ nn ≤ 16 ∧ Hid (nn = mx (fun c => some (d c)) ((g f).take q)) ∧ wo = wr) (fun _ qv _ => gl - (intOf qv).toNat)
        case atStart => exact ⟨0, 0, rfl, rfl, Nat.zero_le _, by omega, hid7 rfl, rfl⟩
        case round =>
          obtain ⟨q, nn, rfl, rfl, hq, hnn, Hn, rfl⟩ := hrel
          by_cases hql : q < gl
          · have hql2 : q < (g f).length := by rw [← HGL.out]; exact hql
            obtain ⟨bj, oj, eaj, _, hc⟩ := row_cell HNs.out hql2
            have hcn : (g f)[q] < n := HCn.out _ (List.getElem_mem hql2)
            have hcc := HFl.out _ hcn
            have HS : Hid (max nn (d (g f)[q]) = mx (fun c => some (d c)) ((g f).take (q + 1))) := hid7 (by rw [List.take_succ_eq_append_getElem hql2, mx_snoc, ← Hn.out]; rfl)
            have hdc := HDd.out (g f)[q]
            subst eaj
            generalize (g f)[q] = c at *
            generalize d c = dc at *
            clear HNs HFl HCn HDb HDd HGL Hn HDs HL
            go_wp2_with fail
            exact ⟨⟨q + 1, max nn dc, by congr 1; omega, by go_num, by omega, by omega, HS, trivial⟩, by simp [intOf]; omega⟩
          · obtain rfl : q = gl := by omega
            have L5 : Hid (Fill (wo.setCell ⟨w2.heap.size, f, none⟩ (.int .i64 ((nn : Int) + 1))) w2.heap.size 3 n (fun j => .int .i64 (dput d f (mx (fun c => some (d c)) (g f) + 1) j : Nat)) ∧ DpI g o (i + 1) (dput d f (mx (fun c => some (d c)) (g f) + 1)) ∧ Below w2.heap.size w2 (wo.setCell ⟨w2.heap.size, f, none⟩ (.int .i64 ((nn : Int) + 1)))) := hid7 ⟨(HL.out.1.set f _).congr fun j _ => by
              have hn2 := Hn.out
              rw [HGL.out, List.take_length] at hn2
              rw [← hn2]
              unfold dput
              by_cases e : j = f
              · rw [if_pos e, if_pos e]; rfl
              · rw [if_neg e, if_neg e], HDs.out, HL.out.2.2.setCell (p := ⟨w2.heap.size, f, none⟩) (Nat.le_refl _) _⟩
            generalize d f = df at hfo
            clear HNs HFl HCn HDb HDd HGL Hn HDs HL
            go_wp2_with fail
            exact ⟨⟨i + 1, _, by go_num, by omega, L5⟩, by simp [intOf]; omega⟩
      · obtain rfl : i = n := by omega
        have HE := hid7 (HEnd.out wo w2.heap.size d (B2.out.trans (HL.out.2.2.mono B2.out.size)) (dpI_end HIn.out.2.2 HIn.out.2.1 HL.out.2.1) (fun x _ => by have := HL.out.2.1.2 x; omega) HL.out.1)
        clear HL HRow HO HIn HEnd
        go_wp2_with fail
        go_ret2
        exact HE.out
  · have HG : Hid (Calls Try.prog 19 #[.agg #[.slice a0 s.consts.length c0, .slice a1 s.funcs.length c1]] (w.alloc (.cells #[.slice a0 s.consts.length c0, .slice a1 s.funcs.length c1] 25)) fun e w1 => ∃ c : Int, (c != 0) = true ∧ e = .returned (.tuple #[.slice none 0 0, .int .i64 c]) ∧ Hid (DeepEnd s w (.returned (.tuple #[.slice none 0 0, .int .i64 c])) w1)) := hid7 (hG.mono fun e w1 ⟨h1, h2⟩ => by
      have bb := b1.trans (h1.mono b1.size)
      by_cases hr : s.right = true
      · rw [if_pos hr] at h2
        have ho : ordS s.funcs.length (gF s) = none := by
          cases e : ordS s.funcs.length (gF s) with
          | none => rfl
          | some o => exact absurd ⟨hr, o, e⟩ hx
        rw [ho] at h2
        exact ⟨34, by decide, h2, hid7 ⟨bb, by rw [if_pos hr, if_pos (by rw [ho]; rfl)]⟩⟩
      · rw [if_neg hr] at h2
        exact ⟨30, by decide, h2, hid7 ⟨bb, by rw [if_neg hr]⟩⟩)
    clear hG hx n0 n1 hsf b1 hs e0 hI64
    generalize s.consts.length = cl at HG ⊢
    generalize s.funcs.length = fl at HG ⊢
    go_enter Try.func21, Try.ntmps21
    go_wp2_with (first
      | (go_at_call 19; refine HG.out.mono ?_; clear HG; rintro e w1 ⟨c, hc, rfl, K1⟩)
      | fail)
    go_ret2
    exact K1.out
end Go.Proofs.Ytikomfbpaimnmaa
namespace Go.Proofs.Ytikomfbpaimnmaa
set_option maxRecDepth 100000
open Go.ChangeShapes Go.WideShapes Go.ChangeAt Go.RowKit

theorem own : ownKnob Try.prog.godebug = none := by kernel_rfl
theorem laidOut : laidOutB Try.prog = true := by kernel_rfl
/-- A world for the witness: the settled one. -/
noncomputable def laidWorld (os : Os) : World := World.holding Try.prog os ⟨#[], #[], []⟩
theorem laid_met (os : Os) (args : Array Value) : laidMet Try.prog [] ((laidWorld os).forCall (fun _ _ => 0) ⟨#[], args, []⟩).memory :=
  laidMet_of_run' 20 (by kernel_rfl) (by kernel_rfl)
theorem int_wf {x : Int} (h : (Lit.int .i64 x).wf = true) : -9223372036854775808 ≤ x ∧ x ≤ 9223372036854775807 := by
  have h1 : IntKind.i64.min = -9223372036854775808 := rfl
  have h2 : IntKind.i64.max = 9223372036854775807 := rfl
  simp only [Lit.wf, Bool.and_eq_true, decide_eq_true_eq] at h
  omega
theorem open_txt {H : Type} {enc : TypeId × Value → H} {W : World} {base : Nat} {v : Value} {d : DataW H} {ps : List MemPlace} (hval : Value.okWide Try.prog W .any base 9 v) (hd : DataW.Trod enc Try.prog W 0 (fun _ => true) true 9 v d ps) : ∃ l : List UInt8, v = .string ⟨l.toArray⟩ ∧ l.length ≤ maxLen := by
  obtain ⟨s, rfl, rfl, rfl, hs⟩ := Go.ChangeMaps.open_string Try.underlying9 hval hd
  obtain ⟨⟨l⟩⟩ := s
  exact ⟨l, rfl, hs⟩
end Go.Proofs.Ytikomfbpaimnmaa
namespace Go.Proofs.Ytikomfbpaimnmaa.bulks

theorem pos {H : Type} (d : DataW H) : 1 ≤ Rows.uptoBulk d := by
  cases d with
  | lit l => cases l <;> simp [Rows.uptoBulk]
  | _ => simp [Rows.uptoBulk]
theorem many {H : Type} (l : List (DataW H)) : l.length ≤ Rows.uptoBulkAll l := by
  induction l with
  | nil => exact Nat.zero_le _
  | cons x r ih => have := pos x; simp only [Rows.uptoBulkAll, List.length_cons]; omega
theorem within {H : Type} {d : DataW H} {l : List (DataW H)} (h : d ∈ l) : Rows.uptoBulk d ≤ Rows.uptoBulkAll l := by
  induction l with
  | nil => cases h
  | cons x r ih =>
    simp only [Rows.uptoBulkAll]
    rcases List.mem_cons.1 h with e | e
    · subst e; omega
    · have := ih e; omega
theorem bound {H : Type} {l : List (DataW H)} (hk : Rows.uptoSmall H l = true) : Rows.uptoBulkAll l ≤ 1048576 := of_decide_eq_true hk
/-- A slice that came in: its places. -/
theorem places {H : Type} {l : List (DataW H)} {d : DataW H} {cap : Nat} (hb : Rows.uptoBulkAll l ≤ 1048576) (hm : d ∈ l) (h : (d = .nil ∧ cap = 0) ∨ ∃ el sp, d = .slice el sp ∧ el.length + sp.length = cap) : cap ≤ 1048576 := by
  rcases h with ⟨_, rfl⟩ | ⟨el, sp, rfl, rfl⟩
  · exact Nat.zero_le _
  · have h1 := within hm
    have h2 := many el
    have h3 := many sp
    simp only [Rows.uptoBulk] at h1
    omega
end Go.Proofs.Ytikomfbpaimnmaa.bulks
