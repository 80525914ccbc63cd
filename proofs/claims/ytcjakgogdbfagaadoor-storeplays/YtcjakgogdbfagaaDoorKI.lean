/- Layer 11: the document's store: a rising row of pairs; find. Layer 11: a store's Scan: the walk. -/
import Derived.Test.YtcjakgogdbfagaaDoorKB
import Derived.Maps.OwnIn
import Derived.Maps.AppendAt
namespace Go.Proofs.YtcjakgogdbfagaaDoor
open Go.RowKit
/-- Where a key stands, or would stand. -/
def posL (L : Kvs) (k : Bt) : Nat := (L.takeWhile fun x => ltB x.1 k).length
theorem pos_le (L : Kvs) (k : Bt) : posL L k ≤ L.length := (List.takeWhile_prefix _).length_le
theorem pos_before {L : Kvs} {k : Bt} : ∀ x ∈ L.take (posL L k), klt x.1 k := by
  intro x hx
  have hp : L.takeWhile (fun x => ltB x.1 k) <+: L := List.takeWhile_prefix _
  unfold posL at hx
  rw [← List.prefix_iff_eq_take.1 hp] at hx
  have : ∀ (l : Kvs), x ∈ l.takeWhile (fun x => ltB x.1 k) → ltB x.1 k = true := fun l => by
    induction l with
    | nil => intro h; cases h
    | cons y l ih =>
      rw [List.takeWhile_cons]
      split
      · rename_i hy
        intro h
        rcases List.mem_cons.1 h with e | e
        · rw [e]; exact hy
        · exact ih e
      · intro h; cases h
  have := this L hx
  unfold ltB at this
  exact of_decide_eq_true this
theorem pos_at {L : Kvs} {k : Bt} (h : posL L k < L.length) : ¬ klt L[posL L k].1 k := by
  intro hc
  have key : ∀ (l : Kvs) (h : (l.takeWhile fun x => ltB x.1 k).length < l.length), ¬ klt l[(l.takeWhile fun x => ltB x.1 k).length].1 k := fun l => by
    induction l with
    | nil => intro h; simp at h
    | cons y l ih =>
      intro h
      by_cases hy : ltB y.1 k = true
      · simp only [List.takeWhile_cons, hy, if_true, List.length_cons] at h ⊢
        rw [List.getElem_cons_succ]
        exact ih (by simpa using h)
      · simp only [List.takeWhile_cons, hy, Bool.false_eq_true, if_false, List.length_nil] at h ⊢
        rw [List.getElem_cons_zero]
        intro e
        exact hy (by unfold ltB; exact decide_eq_true e)
  exact key L h hc
theorem pos_after {L : Kvs} (s : SrtL L) {k : Bt} {i : Nat} (h : i < L.length) (hp : posL L k < i) : klt k L[i].1 := by
  have h1 := pos_at (L := L) (k := k) (by omega)
  have h2 : klt L[posL L k].1 L[i].1 := (List.pairwise_iff_getElem.1 s) _ _ (by omega) h hp
  by_cases e : L[posL L k].1 = k
  · rw [e] at h2; exact h2
  · rcases klt_tot _ _ e with x | x
    · exact absurd x h1
    · exact klt_trans _ _ _ x h2
theorem drop_cons {L : Kvs} {i : Nat} (h : i < L.length) : L.drop i = L[i] :: L.drop (i + 1) := List.drop_eq_getElem_cons h
/-- A key that is there stands at its place. -/
theorem pos_there {L : Kvs} (s : SrtL L) {k : Bt} : (∃ v, getL L k = some v ∧ ∃ h : posL L k < L.length, L[posL L k] = (k, v)) ∨ (getL L k = none ∧ ∀ h : posL L k < L.length, klt k L[posL L k].1) := by
  have hb := pos_before (L := L) (k := k)
  have hsp : L = L.take (posL L k) ++ L.drop (posL L k) := (List.take_append_drop _ _).symm
  have hg : getL L k = getL (L.drop (posL L k)) k := by
    have := getL_app (A := L.take (posL L k)) (B := L.drop (posL L k)) (k := k) fun x hx => klt_ne (hb x hx)
    rwa [List.take_append_drop] at this
  by_cases h : posL L k < L.length
  · have h1 := pos_at h
    rw [drop_cons h] at hg
    by_cases e : L[posL L k].1 = k
    · refine .inl ⟨L[posL L k].2, ?_, h, ?_⟩
      · rw [hg]
        show (if L[posL L k].1 = k then some L[posL L k].2 else _) = _
        rw [if_pos e]
      · exact Prod.ext e rfl
    · have hk : klt k L[posL L k].1 := by
        rcases klt_tot _ _ e with x | x
        · exact absurd x h1
        · exact x
      refine .inr ⟨?_, fun _ => hk⟩
      rw [hg, ← drop_cons h]
      refine getL_lt fun y hy => ?_
      obtain ⟨j, hj, rfl⟩ := List.getElem_of_mem hy
      rw [List.getElem_drop]
      by_cases e2 : j = 0
      · subst e2; exact hk
      · exact pos_after s _ (by omega)
  · refine .inr ⟨?_, fun h2 => absurd h2 h⟩
    rw [hg, List.drop_of_length_le (by omega)]
    rfl
theorem putL_pos {L : Kvs} (s : SrtL L) {k v : Bt} (h : getL L k = none) : putL L k v = L.take (posL L k) ++ (k, v) :: L.drop (posL L k) := by
  have := putL_new (A := L.take (posL L k)) (B := L.drop (posL L k)) (k := k) (u := v) pos_before fun x hx => by
    obtain ⟨j, hj, rfl⟩ := List.getElem_of_mem hx
    rw [List.getElem_drop]
    rw [List.length_drop] at hj
    rcases pos_there s (k := k) with ⟨u, e, _⟩ | ⟨_, hk⟩
    · rw [h] at e; cases e
    · by_cases e2 : j = 0
      · subst e2; exact hk (by omega)
      · exact pos_after s _ (by omega)
  rwa [List.take_append_drop] at this
theorem putL_set {L : Kvs} (s : SrtL L) {k v u : Bt} (h : getL L k = some u) : putL L k v = L.set (posL L k) (k, v) ∧ posL L k < L.length ∧ ∃ hp : posL L k < L.length, L[posL L k] = (k, u) := by
  rcases pos_there s (k := k) with ⟨u2, e, hp, e2⟩ | ⟨e, _⟩
  · rw [h] at e
    injection e with e
    subst e
    refine ⟨?_, hp, hp, e2⟩
    have h1 : L = L.take (posL L k) ++ (k, u) :: L.drop (posL L k + 1) := by
      rw [← e2, ← drop_cons hp, List.take_append_drop]
    have h2 := putL_old (A := L.take (posL L k)) (B := L.drop (posL L k + 1)) (k := k) (v := u) (u := v) pos_before
    rw [← h1] at h2
    rw [h2, List.set_eq_take_append_cons_drop, if_pos hp]
  · rw [h] at e; cases e
/-- The document's store at rb: its pairs, their row. -/
structure RfAt (rb : Nat) (v : Value) (L : Kvs) (w : World) : Prop where
  box : w.heap[rb]? = some (.cells #[v] 28 (0, 0))
  row : w.ownsRow 0 72 2 v L.length (cellsP L)
section
variable {rb : Nat} {v : Value} {L : Kvs} {w w' : World}
theorem RfAt.kt {S : Nat → Prop} (h : RfAt rb v L w) (k : Kt S w w') (s0 : ¬ S rb) (s1 : ∀ g, v.ownBlock = some g → ¬ S g) : RfAt rb v L w' := by
  refine ⟨(k.block _ (heap_ltb h.box) s0).trans h.box, h.row.1, ?_⟩
  rcases h.row.2 with x | ⟨g, cap, cur, rfl, hb, hc, hr⟩
  · exact .inl x
  · exact .inr ⟨g, cap, cur, rfl, hb, (k.block g (heap_ltb hc) (s1 g rfl)).trans hc, hr⟩
theorem RfAt.below (h : RfAt rb v L w) (k : Below w.heap.size w w') : RfAt rb v L w' := h.kt (Kt.below (S := fun _ => False) k) id fun _ _ => id
theorem RfAt.drewN (h : RfAt rb v L w) (m : Nat) : RfAt rb v L (w.drewN m) := h.kt ((Kt.refl (fun _ => False) w).drewN m) id fun _ _ => id
theorem RfAt.c (h : RfAt rb v L w) : w.cell? ⟨rb, 0, none⟩ = some v := Lib.cell_of_heap h.box 0
theorem RfAt.form (h : RfAt rb v L w) : ∃ a c, v = .slice a L.length c ∧ L.length ≤ c ∧ c ≤ maxLen := by
  obtain ⟨a, c, h1, h2, h3, _⟩ := row_form h.row
  exact ⟨a, c, h1, h2, h3⟩
theorem row_pairR {B n : Nat} {va : Option Addr} {vc : Nat} {C : Kvs} (h : w.ownsRow B 72 2 (.slice va n vc) C.length (cellsP C)) {k : Nat} (hk : k < C.length) : ∃ g, va = some ⟨g, 0, none⟩ ∧ g < w.heap.size ∧ w.cell? ⟨g, k * 2, none⟩ = some (sv C[k].1) ∧ w.cell? ⟨g, k * 2 + 1, none⟩ = some (sv C[k].2) := by
  rcases h.2 with ⟨_, e⟩ | ⟨g, cap, cur, e, hb, hc, hn, hm, hs, ht⟩
  · omega
  · injection e with e1
    refine ⟨g, e1, heap_ltb hc, ?_, ?_⟩
    · have := (cellsP_at C k hk).1
      rw [← ht, List.getElem?_take_of_lt (by omega), Array.getElem?_toList] at this
      rw [Lib.cell_of_heap hc]
      exact this
    · have := (cellsP_at C k hk).2
      rw [← ht, List.getElem?_take_of_lt (by omega), Array.getElem?_toList] at this
      rw [Lib.cell_of_heap hc]
      exact this
end
theorem pos_go {L : Kvs} {k : Bt} {i : Nat} (hi : i ≤ posL L k) (h : i < L.length) (hlt : klt L[i].1 k) : i + 1 ≤ posL L k := by
  rcases Nat.lt_or_ge i (posL L k) with x | x
  · omega
  · have : i = posL L k := by omega
    subst this
    exact absurd hlt (pos_at h)
theorem pos_halt {L : Kvs} {k : Bt} {i : Nat} (hi : i ≤ posL L k) (h : i < L.length) (hn : ¬ klt L[i].1 k) : posL L k = i := by
  rcases Nat.lt_or_ge i (posL L k) with x | x
  · have : L[i] ∈ L.take (posL L k) := by
      have h2 : (L.take (posL L k))[i]? = L[i]? := List.getElem?_take_of_lt x
      rw [List.getElem?_eq_getElem h] at h2
      exact List.mem_of_getElem? h2
    exact absurd (pos_before _ this) hn
  · omega
set_option maxRecDepth 100000 in
set_option maxHeartbeats 1000000 in
theorem rfind_any (rb : Nat) (v : Value) (L : Kvs) (w : World) (k : Bt) (h : RfAt rb v L w) (s : SrtL L) (hL : L.length ≤ 1000000) : Calls Tryd.prog 41 #[.pointer (some ⟨rb, 0, none⟩), sv k] w fun e w' => e = .returned (.tuple #[.int .i64 (posL L k : Nat), .bool (getL L k).isSome]) ∧ ∃ m, w' = w.drewN m := by
  obtain ⟨va, vc, rfl, _⟩ := h.form
  have c0 := h.c
  have HR := hidb h.row
  have HS := hidb s
  have hpl := pos_le L k
  obtain ⟨n, hn⟩ : ∃ n, n = L.length := ⟨_, rfl⟩
  have Hn := hidb hn
  rw [← hn] at c0 HR hL hpl
  clear h s hn
  go_enter Tryd.func41, Tryd.ntmps41
  go_wp2_with fail
  go_loopw [6] (fun iv wr => ∃ i : Nat, iv = .int .i64 i ∧ i ≤ n ∧ i ≤ posL L k ∧ w = wr) (fun iv _ => n - (intOf iv).toNat)
  case atStart => exact ⟨0, rfl, Nat.zero_le _, Nat.zero_le _, rfl⟩
  case round =>
    obtain ⟨i, rfl, hi, hip, rfl⟩ := hrel
    by_cases hlt : i < n
    · have hil : i < L.length := by rw [← Hn.out]; exact hlt
      have hr := HR.out
      rw [Hn.out] at hr
      obtain ⟨g, eg, hg, e0, e1⟩ := row_pairR hr hil
      by_cases hk : klt L[i].1 k
      · have hb : Op.bytesLess L[i].1 k = true := hk
        have hgo := pos_go hip hil hk
        rw [eg] at c0
        clear hr hk
        generalize L[i] = x at e0 e1 hb
        obtain ⟨xa, xb⟩ := x
        simp only at e0 e1 hb
        go_wp2_with fail
        exact ⟨⟨i + 1, by go_num, by omega, hgo, by first | rfl | trivial⟩, by simp [intOf]; omega⟩
      · have hb : Op.bytesLess L[i].1 k = false := by simpa using hk
        have hpos := pos_halt hip hil hk
        have hth : (getL L k).isSome = (L[i].1 == k) := by
          rcases pos_there HS.out (k := k) with ⟨u, e, hp, e2⟩ | ⟨e, e2⟩
          · rw [e]
            have : L[i] = (k, u) := by rw [← e2]; congr 1; exact hpos.symm
            rw [this]
            simp
          · rw [e]
            have := e2 (by omega)
            simp only [hpos] at this
            have := klt_ne this
            simp only [Option.isSome_none]
            rw [eq_comm, beq_eq_false_iff_ne]
            exact this.symm
        have HP := hidb hpos
        have HT := hidb hth
        rw [eg] at c0
        clear hr hk hth hpos
        generalize L[i] = x at e0 e1 hb HT
        obtain ⟨xa, xb⟩ := x
        simp only at e0 e1 hb HT
        go_wp2_with fail
        go_quiet (fail)
        go_wp2_with fail
        go_ret2
        exact ⟨by rw [HP.out, HT.out]; rfl, _, rfl⟩
    · have hpos : posL L k = n := by
        have : i = n := by omega
        omega
      have hth : getL L k = none := by
        rcases pos_there HS.out (k := k) with ⟨u, e, hp, e2⟩ | ⟨e, e2⟩
        · have := Hn.out
          omega
        · exact e
      have HP := hidb hpos
      have HT := hidb hth
      clear hth hpos
      go_wp2_with fail
      go_ret2
      exact ⟨by rw [HP.out, HT.out]; rfl, 0, rfl⟩
end Go.Proofs.YtcjakgogdbfagaaDoor
namespace Go.Proofs.YtcjakgogdbfagaaDoor
open Go.RowKit Go.Shelf
attribute [local go_sem] Oper.semAt_some
theorem results_tmpK {fn : Func} {t : Tmp} (h : fn.results = #[.tmp t]) (tmps : Array Value) (P : Program) (w : World) (v : Value) (ha : tmps[t]?.getD undef = v) : (results fn tmps).run P w = .ok v w := by
  simp [results, h, ha]
/-- All of these are told, and not yet enough. -/
def PreOk (tk : Bt) (m : Int) (pre : Kvs) : Prop := (∀ y ∈ pre, inB tk y = true) ∧ (m = 0 ∨ (pre.length : Int) < m)
/-- What Scan leaves. -/
def ScEnd (X : Kvs) (w : World) (e : Ending) (w' : World) : Prop := ∃ v, e = .returned v ∧ w'.ownsRow w.heap.size 69 2 v X.length (cellsP X) ∧ Below w.heap.size w w'
theorem row_lower {w : World} {B B' n size : Nat} {e : TypeId} {v : Value} {xs : List Value} (h : w.ownsRow B e size v n xs) (hB : B' ≤ B) : w.ownsRow B' e size v n xs := by
  refine ⟨h.1, ?_⟩
  rcases h.2 with x | ⟨g, cap, cur, x1, x2, x3⟩
  · exact .inl x
  · exact .inr ⟨g, cap, cur, x1, Nat.le_trans hB x2, x3⟩
theorem scan_fin {sb tb g Z D' : Nat} {L X : Kvs} {tk : Bt} {m : Int} {w W : World} {v : Value} (hI : ScI sb tb g L tk m Z w X W) (v2 : W.ownsRow (Z + 3) 69 2 v X.length (cellsP X)) (hZ : Z = w.heap.size) (hD : Z + 5 ≤ D') (hK : W.heap[D']? = some (.deferred (some []))) : ScEnd X w (.returned v) (W.putObj D' (.deferred none)) := by
  refine ⟨v, rfl, ?_, ?_⟩
  · refine row_lower (World.ownsRow.kept v2 (grownBy_putObj' W D' (.deferred none)) (.inr fun e => ?_)) (by omega)
    obtain ⟨_, o, ho, hc⟩ := row_cells v2 D' e
    rw [hK] at ho
    cases ho
    cases hc
  · rw [← hZ]
    have hs := hI.siz
    refine hI.bel.grown (grownBy_putObj' W D' (.deferred none)) (by omega) fun j ej => ?_
    cases ej
    omega
set_option maxRecDepth 100000 in
set_option maxHeartbeats 1000000 in
theorem scan_any (sb tb g : Nat) (L : Kvs) (fr tk : Bt) (m : Int) (w : World) (h : StAt sb tb g L w) (hm : 0 ≤ m) (hL : L.length ≤ 1000000) :
    Calls Tryd.prog 22 #[.pointer (some ⟨sb, 0, none⟩), sv fr, sv tk, .int .i64 m] w (ScEnd (scanL L fr tk m) w) := by
  refine (callsIn_wide (n := 3)).1 ?_
  refine callsIn_of_wp_marks Tryd.func22 rfl trivial ?_ rfl
  simp only [Tryd.ntmps22, List.size_toArray, List.length_cons, List.length_nil, Nat.reduceAdd, Nat.reduceSub, Array.replicate_succ, Array.replicate_zero, List.push_toArray, List.append_toArray, List.nil_append, List.cons_append]
  have x0 : ((w.alloc (.cells #[sv tk] 9)).alloc (.cells #[.int .i64 m] 3)).cell? ⟨sb, 0, none⟩ = some (.pointer (some ⟨tb, 0, none⟩)) := (h.below (((Below.refl _ w).alloc (Nat.le_refl _) _).alloc (by simp) _)).c
  have hmd := hidb (stmade_any sb _ tb x0)
  have H0 := ScI.start (tk := tk) (m := m) h
  obtain ⟨f0, f1, f2⟩ := H0.facts
  obtain ⟨Z, hZ⟩ : ∃ Z, Z = w.heap.size := ⟨_, rfl⟩
  have hr := hidb (rise_call tb fr (((w.alloc (.cells #[sv tk] 9)).alloc (.cells #[.int .i64 m] 3)).alloc (.cells #[.slice none 0 0] 50)))
  have HI0 := hidb H0
  have hd : decide (m < 0) = false := by simpa using hm
  have hx := h.lts.1
  clear H0
  gi_wp2_with (first
    | (refine ⟨trivial, ?_⟩; gi_at_call 28; refine (callsIn_wide.2 hmd.out).mono ?_; clear hmd; rintro e w' ⟨rfl, rfl⟩)
    | (refine ⟨trivial, ?_⟩; gi_at_call 42; refine (callsIn_wide.2 hr.out).mono ?_; clear hr; rintro e w' ⟨rfl, rfl⟩)
    | fail)
  obtain ⟨Wb, hWb⟩ : ∃ Wb, Wb = ((w.alloc (.cells #[sv tk] 9)).alloc (.cells #[.int .i64 m] 3)).alloc (.cells #[.slice none 0 0] 50) := ⟨_, rfl⟩
  obtain ⟨Wc, hWc⟩ : ∃ Wc, Wc = (Wb.alloc (.cells #[.pointer (some ⟨tb, 0, none⟩)] 34)).alloc (.cells #[sv fr] 9) := ⟨_, rfl⟩
  have hsz : Wb.heap.size = w.heap.size + 3 := by rw [hWb]; simp
  rw [← hWb] at HI0 f0 f1 f2
  have hBc : Below Wb.heap.size Wb Wc := by rw [hWc]; exact ((Below.refl _ Wb).alloc (Nat.le_refl _) _).alloc (by simp) _
  have HIc : Hid (ScI sb tb g L tk m Z w [] Wc) := hidb (by rw [hZ]; exact HI0.out.below hBc)
  have bx3 : Wc.heap[Z + 3]? = some (.cells #[.pointer (some ⟨tb, 0, none⟩)] 34 (0, 0)) := by
    rw [hWc, Below.heap_alloc _ _ _ (by simp; omega), show Z + 3 = Wb.heap.size by omega, heap_alloc_new]
  have bx4 : Wc.heap[Z + 4]? = some (.cells #[sv fr] 9 (0, 0)) := by
    have := heap_alloc_new (Wb.alloc (.cells #[.pointer (some ⟨tb, 0, none⟩)] 34)) (.cells #[sv fr] 9)
    rw [World.size_alloc, hsz] at this
    rw [hWc, show Z + 4 = w.heap.size + 3 + 1 by omega]
    exact this
  have hszc : Wc.heap.size = Z + 5 := by rw [hWc]; simp; omega
  rw [← hWb, ← hWc]
  clear hWb hWc HI0 hBc hsz f0 f1 f2 x0
  have hlt := h.lts
  rw [← hZ]
  have HZ := hidb hZ
  have lsbZ : sb < Z := by omega
  have ltbZ : tb < Z := by omega
  have lgZ : g < Z := by omega
  clear hZ hlt hx
  refine range_feeds2 (Kp := KpS fun k => k = Z + 1 + 1 + 1 ∨ k = Z + 1 + 1 + 1 + 1 ∨ k = tb ∨ k = g) (xs := fromL L fr) (encs := fun x : Bt × Bt => #[sv x.1, sv x.2]) rfl (by decide) (gf := 60) (lb := #[.pointer (some ⟨Z + 1 + 1 + 1, 0, none⟩), .pointer (some ⟨Z + 1 + 1 + 1 + 1, 0, none⟩)]) rfl trivial (enters_of Tryd.func60 (by kernel_rfl) rfl)
    (fun W hW => by
      have hI := HIc.out.below hW
      exact rise_feeds 2 (Z + 1 + 1 + 1) (Z + 1 + 1 + 1 + 1) tb g L fr W (by rw [hW.cell (p := ⟨Z + 3, 0, none⟩) (by show Z + 3 < _; omega)]; exact Lib.cell_of_heap bx3 0) (by rw [hW.cell (p := ⟨Z + 4, 0, none⟩) (by show Z + 4 < _; omega)]; exact Lib.cell_of_heap bx4 0) hI.st.t)
    (fun h k => h.trans k) (fun W l o hl k hk => World.putObj_heap_other (by rcases hk with rfl | rfl | rfl | rfl <;> omega)) (fun _ => rfl)
    (fun pre W => ScI sb tb g L tk m Z w pre W ∧ W.heap[Z + 3]? = some (.cells #[.pointer (some ⟨tb, 0, none⟩)] 34 (0, 0)) ∧ W.heap[Z + 4]? = some (.cells #[sv fr] 9 (0, 0)) ∧ PreOk tk m pre) (fun c _ W => c = .exit 0 ∧ ScI sb tb g L tk m Z w (scanL L fr tk m) W) (fun pre X Y row h hg hrow => ⟨ScI.own (B := Wc.heap.size) (by omega) pre X Y row h.1 hg hrow, (hg.block _ (heap_ltb h.2.1) fun e => by have := (hrow _ e.symm).1; omega).trans h.2.1, (hg.block _ (heap_ltb h.2.2.1) fun e => by have := (hrow _ e.symm).1; omega).trans h.2.2.1, h.2.2.2⟩) (fun c pre X Y row h hg hrow => ⟨h.1, ScI.own (B := Wc.heap.size) (by omega) _ X Y row h.2 hg hrow⟩) ⟨HIc.out, bx3, bx4, fun y hy => (by cases hy), (by simp; omega)⟩
    (fun x => { tmps := #[.pointer (some ⟨sb, 0, none⟩), sv fr, sv tk, .int .i64 m, undef, undef, .pointer (some ⟨Z, 0, none⟩), .pointer (some ⟨Z + 1, 0, none⟩), .slice none 0 0, .pointer (some ⟨Z + 1 + 1, 0, none⟩), sv x.1, sv x.2, .pointer (some ⟨sb, 0, none⟩), .bool true, .bool false, .bool false, .int .i64 m, .bool false, .bool false, .pointer (some ⟨sb, 0, none⟩), .pointer (some ⟨sb, 0, none⟩), .pointer (some ⟨sb, 0, none⟩), .pointer (some ⟨tb, 0, none⟩), sv fr, .func (.func 60) #[] #[.pointer (some ⟨Z + 1 + 1 + 1, 0, none⟩), .pointer (some ⟨Z + 1 + 1 + 1 + 1, 0, none⟩)], sv x.1, sv x.2, undef, undef, undef, undef, undef, undef, undef, undef, undef, undef, undef, undef, undef, undef, undef, undef, undef, undef], defers := [] }) ?assign ?body ?done ?stop
  case assign =>
    intro l x W K hK
    gi_wp2
    exact hK
  case stop =>
    rintro D' c pre W hD hpre ⟨rfl, hI⟩ hK
    have g9 := hI.facts
    obtain ⟨v, v1, v2⟩ := hI.bl
    have c9 := Lib.cell_of_heap v1 0
    have HE := hidb (scan_fin hI v2 HZ.out (by omega) hK)
    clear hI v2 v1 HIc bx3 bx4
    gi_wp2
    refine ⟨by simp, .inl ⟨_, _, rfl, run_takeDeferred hK, ?_⟩⟩
    refine ⟨_, ?_, HE.out⟩
    exact results_tmpK rfl _ _ _ _ rfl
  case done =>
    rintro D' W hD ⟨hI, z3, z4, ⟨hp, hq⟩⟩ hK
    have g9 := hI.facts
    obtain ⟨v, v1, v2⟩ := hI.bl
    have c9 := Lib.cell_of_heap v1 0
    have HE := hidb (scan_fin hI v2 HZ.out (by omega) hK)
    rw [← scan_done (tk := tk) (m := m) hp (by omega)] at HE
    clear hI v2 v1 HIc bx3 bx4 z3 z4 hp hq
    gi_wp2
    refine ⟨by simp, .inl ⟨_, _, rfl, run_takeDeferred hK, ?_⟩⟩
    refine ⟨_, ?_, HE.out⟩
    exact results_tmpK rfl _ _ _ _ rfl
  case body =>
    rintro l pre x W ⟨hI, e3, e4, ⟨hp, hq⟩⟩ hx
    have HSZ := hidb hszc
    clear hszc bx3 bx4
    obtain ⟨g0, g1, g2⟩ := hI.facts
    by_cases hin : inB tk x = true
    · have hsn : ∀ y ∈ pre ++ [x], inB tk y = true := fun y hy => by
        rcases List.mem_append.1 hy with e | e
        · exact hp y e
        · rw [List.mem_singleton.1 e]; exact hin
      have hpl : pre.length ≤ 1000000 := by
        have h1 := hx.length_le
        have h2 := List.length_filter_le (fun x : Bt × Bt => decide (¬ klt x.1 fr)) L
        simp only [List.length_append, List.length_cons, List.length_nil] at h1
        unfold fromL at h1
        omega
      have HL1 : pre.length + 1 ≤ maxLen := Nat.le_trans (by omega : pre.length + 1 ≤ 1000001) (by decide)
      have HL2 : (pre.length + 1) * 32 ≤ 140737488355328 := by omega
      obtain ⟨v, v1, v2⟩ := hI.bl
      obtain ⟨va, vc, rfl, hcl⟩ := row_form v2
      clear hcl
      have hsW : Z + 3 ≤ (W.alloc (.cells #[sv x.1, sv x.2] 69)).heap.size := by
        have := hI.siz
        simp only [World.size_alloc]
        omega
      obtain ⟨i0, hi, hz0, hz1, hz2⟩ := info_parts (show (Tryd.prog.info? 69).map (fun i => (i.zero, i.size, i.bytes)) = some (some (.agg #[.string ⟨#[]⟩, .string ⟨#[]⟩]), 2, 32) by kernel_rfl)
      have c1 := Lib.cell_of_heap v1 0
      have HR : Hid ((W.alloc (.cells #[sv x.1, sv x.2] 69)).ownsRow (Z + 3) 69 2 (.slice va pre.length vc) pre.length (cellsP pre)) := hidb (row_below2 v2 ((Below.refl W.heap.size W).alloc (Nat.le_refl _) _))
      have HN : Hid (∀ j u, [sv x.1, sv x.2][j]? = some u → (W.alloc (.cells #[sv x.1, sv x.2] 69)).cell? ((⟨W.heap.size, 0, none⟩ : Addr).add j) = some u) := hidb (cells_newb W [sv x.1, sv x.2] 69 W.heap.size rfl)
      have HO1 : ∀ u ∈ [sv x.1, sv x.2], u.oneCell' = true := by simp [Value.oneCell']
      obtain ⟨n1, hn1⟩ : ∃ n1, n1 = pre.length + 1 := ⟨_, rfl⟩
      have HP : Hid (∀ v' w6, w6.ownsRow (Z + 3) 69 2 v' (pre.length + 1) (cellsP pre ++ [sv x.1, sv x.2]) → Step (W.alloc (.cells #[sv x.1, sv x.2] 69)) (.slice va pre.length vc) w6 v' →
          (w6.cell? ⟨Z + 2, 0, none⟩ = some (.slice va pre.length vc) ∧ w6.frozen? ⟨Z + 2, 0, none⟩ = false ∧ (w6.cell? ⟨Z + 1, 0, none⟩ = some (.int .i64 m)) ∧ ∃ a c, v' = .slice a n1 c) ∧
          ((pre.length : Int) + 1 = m → KeepsFrom Wc.heap.size W (w6.setCell ⟨Z + 2, 0, none⟩ v') ∧ Code.exit 0 = Code.exit 0 ∧ ScI sb tb g L tk m Z w (scanL L fr tk m) (w6.setCell ⟨Z + 2, 0, none⟩ v')) ∧
          (¬ (pre.length : Int) + 1 = m → KeepsFrom Wc.heap.size W (w6.setCell ⟨Z + 2, 0, none⟩ v') ∧ (KpS fun k => k = Z + 1 + 1 + 1 ∨ k = Z + 1 + 1 + 1 + 1 ∨ k = tb ∨ k = g) W (w6.setCell ⟨Z + 2, 0, none⟩ v') ∧ ScI sb tb g L tk m Z w (pre ++ [x]) (w6.setCell ⟨Z + 2, 0, none⟩ v') ∧ (w6.setCell ⟨Z + 2, 0, none⟩ v').heap[Z + 3]? = some (.cells #[.pointer (some ⟨tb, 0, none⟩)] 34 (0, 0)) ∧ (w6.setCell ⟨Z + 2, 0, none⟩ v').heap[Z + 4]? = some (.cells #[sv fr] 9 (0, 0)) ∧ PreOk tk m (pre ++ [x]))) := hidb fun v' w6 hr hst => by
        obtain ⟨p1, p2, p3, p4⟩ := ScI.push (x := x) hI v1 v2 hr hst
        have n3 : (Value.slice va pre.length vc).ownBlock ≠ some (Z + 3) := fun e => absurd (row_typed v2 e e3) (by decide)
        have n4 : (Value.slice va pre.length vc).ownBlock ≠ some (Z + 4) := fun e => absurd (row_typed v2 e e4) (by decide)
        have nl : ∀ k < Z, (Value.slice va pre.length vc).ownBlock ≠ some k := fun k hk e => by
          have := (row_cells v2 k e).1
          omega
        have hsz := hI.siz
        have k3 := p4 (Z + 3) (heap_ltb e3) (by omega) n3
        have k4 := p4 (Z + 4) (heap_ltb e4) (by omega) n4
        obtain ⟨a6, c6, e6, _⟩ := row_form hr
        have hkf : KeepsFrom Wc.heap.size W (w6.setCell ⟨Z + 2, 0, none⟩ v') := ⟨(p3 0).1, fun k o _ => (p3 0).2 k o (Nat.zero_le _)⟩
        refine ⟨⟨p1.1, p1.2.1, ?_, a6, c6, by rw [hn1]; exact e6⟩, fun hm1 => ⟨hkf, rfl, ?_⟩, fun hm1 => ⟨hkf, ?_, p2, k3.trans e3, k4.trans e4, hsn, ?_⟩⟩
        · have := p2.facts.2.1
          rw [World.cell?_setCell_other] at this
          · exact this
          · simp
        · rw [scan_full hx hsn (by simp only [List.length_append, List.length_cons, List.length_nil]; omega) (by omega)]
          exact p2
        · rintro k (rfl | rfl | rfl | rfl)
          · exact k3
          · exact k4
          · exact p4 _ (by omega) (by omega) (nl _ ltbZ)
          · exact p4 _ (by omega) (by omega) (nl _ lgZ)
        · simp only [List.length_append, List.length_cons, List.length_nil]
          omega
      clear hI v1 v2 e3 e4 hsn hp hq hx
      obtain ⟨xk, xv⟩ := x
      have hn0 : n1 ≤ 1000001 := by omega
      have hbl : tk = [] ∨ ∃ c tl, tk = c :: tl ∧ Op.bytesLess xk (c :: tl) = true := by
        cases tk with
        | nil => exact .inl rfl
        | cons c tl =>
          unfold inB ltB at hin
          simp at hin
          exact .inr ⟨c, tl, rfl, hin⟩
      simp only at HR HN HP HO1 hsW ⊢
      have hq1 : ∀ j : Bool, ((n1 : Int) == m) = j → (j = true → (pre.length : Int) + 1 = m) ∧ (j = false → ¬ (pre.length : Int) + 1 = m) := fun j hj => ⟨fun e => by rw [e] at hj; simp at hj; omega, fun e => by rw [e] at hj; simp at hj; omega⟩
      have HQ := hidb hq1
      clear hq1 hn1 hin
      rcases hbl with rfl | ⟨c, tl, rfl, hbl⟩
      · cases hj : ((n1 : Int) == m) with
        | true =>
          gi_wp2_with (first
            | (gi_at_builtin; refine wpListIn_append_own_at _ rfl _ _ _ rfl (Z + 3) 69 i0 _ 2 32 Tryd.underlying50 hi hz0 hz1 hz2 rfl (by decide) (.slice va pre.length vc) _ _ rfl HR.out ⟨W.heap.size, 0, none⟩ 1 1 [sv xk, sv xv] rfl rfl HN.out HO1 HL1 HL2 hsW ?_; intro v' w6 hr6 hg6 _ hat6; obtain ⟨⟨q1, q2, q4, qa, qc, rfl⟩, q3⟩ := HP.out v' w6 hr6 ⟨hg6, hat6.imp id fun e => ⟨_, e, Nat.le_refl _⟩⟩; have Q3 := hidb q3; clear q3 hr6 hg6 hat6 HP HR)
            | fail)
          have q5 := Q3.out.1 ((HQ.out _ hj).1 rfl)
          exact ⟨q5.1, rfl, q5.2.2⟩
        | false =>
          gi_wp2_with (first
            | (gi_at_builtin; refine wpListIn_append_own_at _ rfl _ _ _ rfl (Z + 3) 69 i0 _ 2 32 Tryd.underlying50 hi hz0 hz1 hz2 rfl (by decide) (.slice va pre.length vc) _ _ rfl HR.out ⟨W.heap.size, 0, none⟩ 1 1 [sv xk, sv xv] rfl rfl HN.out HO1 HL1 HL2 hsW ?_; intro v' w6 hr6 hg6 _ hat6; obtain ⟨⟨q1, q2, q4, qa, qc, rfl⟩, q3⟩ := HP.out v' w6 hr6 ⟨hg6, hat6.imp id fun e => ⟨_, e, Nat.le_refl _⟩⟩; have Q3 := hidb q3; clear q3 hr6 hg6 hat6 HP HR)
            | fail)
          exact Q3.out.2 ((HQ.out _ hj).2 rfl)
      · cases hj : ((n1 : Int) == m) with
        | true =>
          gi_wp2_with (first
            | (gi_at_builtin; refine wpListIn_append_own_at _ rfl _ _ _ rfl (Z + 3) 69 i0 _ 2 32 Tryd.underlying50 hi hz0 hz1 hz2 rfl (by decide) (.slice va pre.length vc) _ _ rfl HR.out ⟨W.heap.size, 0, none⟩ 1 1 [sv xk, sv xv] rfl rfl HN.out HO1 HL1 HL2 hsW ?_; intro v' w6 hr6 hg6 _ hat6; obtain ⟨⟨q1, q2, q4, qa, qc, rfl⟩, q3⟩ := HP.out v' w6 hr6 ⟨hg6, hat6.imp id fun e => ⟨_, e, Nat.le_refl _⟩⟩; have Q3 := hidb q3; clear q3 hr6 hg6 hat6 HP HR)
            | fail)
          have q5 := Q3.out.1 ((HQ.out _ hj).1 rfl)
          exact ⟨q5.1, rfl, q5.2.2⟩
        | false =>
          gi_wp2_with (first
            | (gi_at_builtin; refine wpListIn_append_own_at _ rfl _ _ _ rfl (Z + 3) 69 i0 _ 2 32 Tryd.underlying50 hi hz0 hz1 hz2 rfl (by decide) (.slice va pre.length vc) _ _ rfl HR.out ⟨W.heap.size, 0, none⟩ 1 1 [sv xk, sv xv] rfl rfl HN.out HO1 HL1 HL2 hsW ?_; intro v' w6 hr6 hg6 _ hat6; obtain ⟨⟨q1, q2, q4, qa, qc, rfl⟩, q3⟩ := HP.out v' w6 hr6 ⟨hg6, hat6.imp id fun e => ⟨_, e, Nat.le_refl _⟩⟩; have Q3 := hidb q3; clear q3 hr6 hg6 hat6 HP HR)
            | fail)
          exact Q3.out.2 ((HQ.out _ hj).2 rfl)
    · have hin2 : inB tk x = false := by simpa using hin
      have hne : tk ≠ [] := fun e => by rw [e] at hin2; cases hin2
      have hbl : Op.bytesLess x.1 tk = false := by
        unfold inB ltB at hin2
        simp at hin2
        exact hin2.2
      have HE : Hid (KeepsFrom Wc.heap.size W W ∧ Code.exit 0 = Code.exit 0 ∧ ScI sb tb g L tk m Z w (scanL L fr tk m) W) := hidb ⟨⟨Nat.le_refl _, fun _ _ _ h _ => h⟩, rfl, by rw [scan_stop hx hp hin2 (by omega)]; exact hI⟩
      clear hI e3 e4 hp hq hin hin2 hx
      obtain ⟨xk, xv⟩ := x
      simp only at hbl ⊢
      obtain ⟨c, tl, rfl⟩ : ∃ c tl, tk = c :: tl := by cases tk; exact absurd rfl hne; exact ⟨_, _, rfl⟩
      gi_wp2
      exact ⟨HE.out.1, rfl, HE.out.2.2⟩
set_option maxRecDepth 100000 in
theorem scan_neg (sb tb g : Nat) (L : Kvs) (fr tk : Bt) (m : Int) (w : World) (h : StAt sb tb g L w) (hm : m < 0) :
    Calls Tryd.prog 22 #[.pointer (some ⟨sb, 0, none⟩), sv fr, sv tk, .int .i64 m] w fun e w' => e = .returned (.slice none 0 0) ∧ Below w.heap.size w w' := by
  have hb : Below w.heap.size w ((w.alloc (.cells #[sv tk] 9)).alloc (.cells #[.int .i64 m] 3)) := ((Below.refl _ w).alloc (Nat.le_refl _) _).alloc (by simp) _
  have hmd := hidb (stmade_any sb _ tb (h.below hb).c)
  have HB := hidb hb
  clear h hb
  go_enter Tryd.func22, Tryd.ntmps22
  go_wp2_with (first
    | (go_at_call 28; refine hmd.out.mono ?_; clear hmd; rintro e w' ⟨rfl, rfl⟩)
    | fail)
  go_ret
  exact ⟨rfl, HB.out⟩
end Go.Proofs.YtcjakgogdbfagaaDoor
