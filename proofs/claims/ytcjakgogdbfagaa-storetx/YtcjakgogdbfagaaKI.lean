/- Layer 11: the document's store: a rising row of pairs; find. Layer 11: a store's Scan: the walk. -/
import Derived.Test.YtcjakgogdbfagaaKB
import Derived.Maps.OwnIn
import Derived.Maps.AppendAt
namespace Go.Proofs.Ytcjakgogdbfagaa
open Go.RowKit
/-- Where a key stands, or would stand. -/
def posL (L : Kvs) (k : Bt) : Nat := (L.takeWhile fun x => ltB x.1 k).length
theorem pos_le (L : Kvs) (k : Bt) : posL L k ≤ L.length := (List.takeWhile_prefix _).length_le
theorem pos_before {L : Kvs} {k : Bt} : ∀ x ∈ L.take (posL L k), klt x.1 k := by
  intro x hx
  have hp : L.takeWhile (fun x => ltB x.1 k) <+: L := List.takeWhile_prefix _
  unfold posL at hx
  rw [← List.prefix_iff_eq_take.1 hp] at hx
  have : ∀ (l : Kvs), x ∈ l.takeWhile (fun x => ltB x.1 k) → ltB x.1 k = true := fun l => by
    induction l with
    | nil => intro h; cases h
    | cons y l ih =>
      rw [List.takeWhile_cons]
      split
      · rename_i hy
        intro h
        rcases List.mem_cons.1 h with e | e
        · rw [e]; exact hy
        · exact ih e
      · intro h; cases h
  have := this L hx
  unfold ltB at this
  exact of_decide_eq_true this
theorem pos_at {L : Kvs} {k : Bt} (h : posL L k < L.length) : ¬ klt L[posL L k].1 k := by
  intro hc
  have key : ∀ (l : Kvs) (h : (l.takeWhile fun x => ltB x.1 k).length < l.length), ¬ klt l[(l.takeWhile fun x => ltB x.1 k).length].1 k := fun l => by
    induction l with
    | nil => intro h; simp at h
    | cons y l ih =>
      intro h
      by_cases hy : ltB y.1 k = true
      · simp only [List.takeWhile_cons, hy, if_true, List.length_cons] at h ⊢
        rw [List.getElem_cons_succ]
        exact ih (by simpa using h)
      · simp only [List.takeWhile_cons, hy, Bool.false_eq_true, if_false, List.length_nil] at h ⊢
        rw [List.getElem_cons_zero]
        intro e
        exact hy (by unfold ltB; exact decide_eq_true e)
  exact key L h hc
theorem pos_after {L : Kvs} (s : SrtL L) {k : Bt} {i : Nat} (h : i < L.length) (hp : posL L k < i) : klt k L[i].1 := by
  have h1 := pos_at (L := L) (k := k) (by omega)
  have h2 : klt L[posL L k].1 L[i].1 := (List.pairwise_iff_getElem.1 s) _ _ (by omega) h hp
  by_cases e : L[posL L k].1 = k
  · rw [e] at h2; exact h2
  · rcases klt_tot _ _ e with x | x
    · exact absurd x h1
    · exact klt_trans _ _ _ x h2
theorem drop_cons {L : Kvs} {i : Nat} (h : i < L.length) : L.drop i = L[i] :: L.drop (i + 1) := List.drop_eq_getElem_cons h
/-- A key that is there stands at its place. -/
theorem pos_there {L : Kvs} (s : SrtL L) {k : Bt} : (∃ v, getL L k = some v ∧ ∃ h : posL L k < L.length, L[posL L k] = (k, v)) ∨ (getL L k = none ∧ ∀ h : posL L k < L.length, klt k L[posL L k].1) := by
  have hb := pos_before (L := L) (k := k)
  have hsp : L = L.take (posL L k) ++ L.drop (posL L k) := (List.take_append_drop _ _).symm
  have hg : getL L k = getL (L.drop (posL L k)) k := by
    have := getL_app (A := L.take (posL L k)) (B := L.drop (posL L k)) (k := k) fun x hx => klt_ne (hb x hx)
    rwa [List.take_append_drop] at this
  by_cases h : posL L k < L.length
  · have h1 := pos_at h
    rw [drop_cons h] at hg
    by_cases e : L[posL L k].1 = k
    · refine .inl ⟨L[posL L k].2, ?_, h, ?_⟩
      · rw [hg]
        show (if L[posL L k].1 = k then some L[posL L k].2 else _) = _
        rw [if_pos e]
      · exact Prod.ext e rfl
    · have hk : klt k L[posL L k].1 := by
        rcases klt_tot _ _ e with x | x
        · exact absurd x h1
        · exact x
      refine .inr ⟨?_, fun _ => hk⟩
      rw [hg, ← drop_cons h]
      refine getL_lt fun y hy => ?_
      obtain ⟨j, hj, rfl⟩ := List.getElem_of_mem hy
      rw [List.getElem_drop]
      by_cases e2 : j = 0
      · subst e2; exact hk
      · exact pos_after s _ (by omega)
  · refine .inr ⟨?_, fun h2 => absurd h2 h⟩
    rw [hg, List.drop_of_length_le (by omega)]
    rfl
theorem putL_pos {L : Kvs} (s : SrtL L) {k v : Bt} (h : getL L k = none) : putL L k v = L.take (posL L k) ++ (k, v) :: L.drop (posL L k) := by
  have := putL_new (A := L.take (posL L k)) (B := L.drop (posL L k)) (k := k) (u := v) pos_before fun x hx => by
    obtain ⟨j, hj, rfl⟩ := List.getElem_of_mem hx
    rw [List.getElem_drop]
    rw [List.length_drop] at hj
    rcases pos_there s (k := k) with ⟨u, e, _⟩ | ⟨_, hk⟩
    · rw [h] at e; cases e
    · by_cases e2 : j = 0
      · subst e2; exact hk (by omega)
      · exact pos_after s _ (by omega)
  rwa [List.take_append_drop] at this
theorem putL_set {L : Kvs} (s : SrtL L) {k v u : Bt} (h : getL L k = some u) : putL L k v = L.set (posL L k) (k, v) ∧ posL L k < L.length ∧ ∃ hp : posL L k < L.length, L[posL L k] = (k, u) := by
  rcases pos_there s (k := k) with ⟨u2, e, hp, e2⟩ | ⟨e, _⟩
  · rw [h] at e
    injection e with e
    subst e
    refine ⟨?_, hp, hp, e2⟩
    have h1 : L = L.take (posL L k) ++ (k, u) :: L.drop (posL L k + 1) := by
      rw [← e2, ← drop_cons hp, List.take_append_drop]
    have h2 := putL_old (A := L.take (posL L k)) (B := L.drop (posL L k + 1)) (k := k) (v := u) (u := v) pos_before
    rw [← h1] at h2
    rw [h2, List.set_eq_take_append_cons_drop, if_pos hp]
  · rw [h] at e; cases e
/-- The document's store at rb: its pairs, their row. -/
structure RfAt (rb : Nat) (v : Value) (L : Kvs) (w : World) : Prop where
  box : w.heap[rb]? = some (.cells #[v] 56 (0, 0))
  row : w.ownsRow 0 73 2 v L.length (cellsP L)
section
variable {rb : Nat} {v : Value} {L : Kvs} {w w' : World}
theorem RfAt.kt {S : Nat → Prop} (h : RfAt rb v L w) (k : Kt S w w') (s0 : ¬ S rb) (s1 : ∀ g, v.ownBlock = some g → ¬ S g) : RfAt rb v L w' := by
  refine ⟨(k.block _ (heap_ltb h.box) s0).trans h.box, h.row.1, ?_⟩
  rcases h.row.2 with x | ⟨g, cap, cur, rfl, hb, hc, hr⟩
  · exact .inl x
  · exact .inr ⟨g, cap, cur, rfl, hb, (k.block g (heap_ltb hc) (s1 g rfl)).trans hc, hr⟩
theorem RfAt.below (h : RfAt rb v L w) (k : Below w.heap.size w w') : RfAt rb v L w' := h.kt (Kt.below (S := fun _ => False) k) id fun _ _ => id
theorem RfAt.drewN (h : RfAt rb v L w) (m : Nat) : RfAt rb v L (w.drewN m) := h.kt ((Kt.refl (fun _ => False) w).drewN m) id fun _ _ => id
theorem RfAt.c (h : RfAt rb v L w) : w.cell? ⟨rb, 0, none⟩ = some v := Lib.cell_of_heap h.box 0
theorem RfAt.form (h : RfAt rb v L w) : ∃ a c, v = .slice a L.length c ∧ L.length ≤ c ∧ c ≤ maxLen := by
  obtain ⟨a, c, h1, h2, h3, _⟩ := row_form h.row
  exact ⟨a, c, h1, h2, h3⟩
theorem row_pairR {B n : Nat} {va : Option Addr} {vc : Nat} {C : Kvs} (h : w.ownsRow B 73 2 (.slice va n vc) C.length (cellsP C)) {k : Nat} (hk : k < C.length) : ∃ g, va = some ⟨g, 0, none⟩ ∧ g < w.heap.size ∧ w.cell? ⟨g, k * 2, none⟩ = some (sv C[k].1) ∧ w.cell? ⟨g, k * 2 + 1, none⟩ = some (sv C[k].2) := by
  rcases h.2 with ⟨_, e⟩ | ⟨g, cap, cur, e, hb, hc, hn, hm, hs, ht⟩
  · omega
  · injection e with e1
    refine ⟨g, e1, heap_ltb hc, ?_, ?_⟩
    · have := (cellsP_at C k hk).1
      rw [← ht, List.getElem?_take_of_lt (by omega), Array.getElem?_toList] at this
      rw [Lib.cell_of_heap hc]
      exact this
    · have := (cellsP_at C k hk).2
      rw [← ht, List.getElem?_take_of_lt (by omega), Array.getElem?_toList] at this
      rw [Lib.cell_of_heap hc]
      exact this
end
theorem pos_go {L : Kvs} {k : Bt} {i : Nat} (hi : i ≤ posL L k) (h : i < L.length) (hlt : klt L[i].1 k) : i + 1 ≤ posL L k := by
  rcases Nat.lt_or_ge i (posL L k) with x | x
  · omega
  · have : i = posL L k := by omega
    subst this
    exact absurd hlt (pos_at h)
theorem pos_halt {L : Kvs} {k : Bt} {i : Nat} (hi : i ≤ posL L k) (h : i < L.length) (hn : ¬ klt L[i].1 k) : posL L k = i := by
  rcases Nat.lt_or_ge i (posL L k) with x | x
  · have : L[i] ∈ L.take (posL L k) := by
      have h2 : (L.take (posL L k))[i]? = L[i]? := List.getElem?_take_of_lt x
      rw [List.getElem?_eq_getElem h] at h2
      exact List.mem_of_getElem? h2
    exact absurd (pos_before _ this) hn
  · omega
set_option maxRecDepth 100000 in
set_option maxHeartbeats 1000000 in
theorem rfind_any (rb : Nat) (v : Value) (L : Kvs) (w : World) (k : Bt) (h : RfAt rb v L w) (s : SrtL L) (hL : L.length ≤ 1000000) : Calls Try.prog 37 #[.pointer (some ⟨rb, 0, none⟩), sv k] w fun e w' => e = .returned (.tuple #[.int .i64 (posL L k : Nat), .bool (getL L k).isSome]) ∧ ∃ m, w' = w.drewN m := by
  obtain ⟨va, vc, rfl, _⟩ := h.form
  have c0 := h.c
  have HR := hidb h.row
  have HS := hidb s
  have hpl := pos_le L k
  obtain ⟨n, hn⟩ : ∃ n, n = L.length := ⟨_, rfl⟩
  have Hn := hidb hn
  rw [← hn] at c0 HR hL hpl
  clear h s hn
  go_enter Try.func37, Try.ntmps37
  go_wp2_with fail
  go_loopw [6] (fun iv wr => ∃ i : Nat, iv = .int .i64 i ∧ i ≤ n ∧ i ≤ posL L k ∧ w = wr) (fun iv _ => n - (intOf iv).toNat)
  case atStart => exact ⟨0, rfl, Nat.zero_le _, Nat.zero_le _, rfl⟩
  case round =>
    obtain ⟨i, rfl, hi, hip, rfl⟩ := hrel
    by_cases hlt : i < n
    · have hil : i < L.length := by rw [← Hn.out]; exact hlt
      have hr := HR.out
      rw [Hn.out] at hr
      obtain ⟨g, eg, hg, e0, e1⟩ := row_pairR hr hil
      by_cases hk : klt L[i].1 k
      · have hb : Op.bytesLess L[i].1 k = true := hk
        have hgo := pos_go hip hil hk
        rw [eg] at c0
        clear hr hk
        generalize L[i] = x at e0 e1 hb
        obtain ⟨xa, xb⟩ := x
        simp only at e0 e1 hb
        go_wp2_with fail
        exact ⟨⟨i + 1, by go_num, by omega, hgo, by first | rfl | trivial⟩, by simp [intOf]; omega⟩
      · have hb : Op.bytesLess L[i].1 k = false := by simpa using hk
        have hpos := pos_halt hip hil hk
        have hth : (getL L k).isSome = (L[i].1 == k) := by
          rcases pos_there HS.out (k := k) with ⟨u, e, hp, e2⟩ | ⟨e, e2⟩
          · rw [e]
            have : L[i] = (k, u) := by rw [← e2]; congr 1; exact hpos.symm
            rw [this]
            simp
          · rw [e]
            have := e2 (by omega)
            simp only [hpos] at this
            have := klt_ne this
            simp only [Option.isSome_none]
            rw [eq_comm, beq_eq_false_iff_ne]
            exact this.symm
        have HP := hidb hpos
        have HT := hidb hth
        rw [eg] at c0
        clear hr hk hth hpos
        generalize L[i] = x at e0 e1 hb HT
        obtain ⟨xa, xb⟩ := x
        simp only at e0 e1 hb HT
        go_wp2_with fail
        go_quiet (fail)
        go_wp2_with fail
        go_ret2
        exact ⟨by rw [HP.out, HT.out]; rfl, _, rfl⟩
    · have hpos : posL L k = n := by
        have : i = n := by omega
        omega
      have hth : getL L k = none := by
        rcases pos_there HS.out (k := k) with ⟨u, e, hp, e2⟩ | ⟨e, e2⟩
        · have := Hn.out
          omega
        · exact e
      have HP := hidb hpos
      have HT := hidb hth
      clear hth hpos
      go_wp2_with fail
      go_ret2
      exact ⟨by rw [HP.out, HT.out]; rfl, 0, rfl⟩
end Go.Proofs.Ytcjakgogdbfagaa
namespace Go.Proofs.Ytcjakgogdbfagaa
open Go.RowKit Go.Shelf
attribute [local go_sem] Oper.semAt_some
theorem results_tmpK {fn : Func} {t : Tmp} (h : fn.results = #[.tmp t]) (tmps : Array Value) (P : Program) (w : World) (v : Value) (ha : tmps[t]?.getD undef = v) : (results fn tmps).run P w = .ok v w := by
  simp [results, h, ha]
/-- All of these are told, and not yet enough. -/
def PreOk (tk : Bt) (m : Int) (pre : Kvs) : Prop := (∀ y ∈ pre, inB tk y = true) ∧ (m = 0 ∨ (pre.length : Int) < m)
/-- What Scan leaves. -/
def ScEnd (X : Kvs) (w : World) (e : Ending) (w' : World) : Prop := ∃ v, e = .returned v ∧ w'.ownsRow w.heap.size 75 2 v X.length (cellsP X) ∧ Below w.heap.size w w'
theorem row_lower {w : World} {B B' n size : Nat} {e : TypeId} {v : Value} {xs : List Value} (h : w.ownsRow B e size v n xs) (hB : B' ≤ B) : w.ownsRow B' e size v n xs := by
  refine ⟨h.1, ?_⟩
  rcases h.2 with x | ⟨g, cap, cur, x1, x2, x3⟩
  · exact .inl x
  · exact .inr ⟨g, cap, cur, x1, Nat.le_trans hB x2, x3⟩
theorem scan_fin {sb tb g Z D' : Nat} {L X : Kvs} {tk : Bt} {m : Int} {w W : World} {v : Value} (hI : ScI sb tb g L tk m Z w X W) (v2 : W.ownsRow (Z + 3) 75 2 v X.length (cellsP X)) (hZ : Z = w.heap.size) (hD : Z + 5 ≤ D') (hK : W.heap[D']? = some (.deferred (some []))) : ScEnd X w (.returned v) (W.putObj D' (.deferred none)) := by
  refine ⟨v, rfl, ?_, ?_⟩
  · refine row_lower (World.ownsRow.kept v2 (grownBy_putObj' W D' (.deferred none)) (.inr fun e => ?_)) (by omega)
    obtain ⟨_, o, ho, hc⟩ := row_cells v2 D' e
    rw [hK] at ho
    cases ho
    cases hc
  · rw [← hZ]
    have hs := hI.siz
    refine hI.bel.grown (grownBy_putObj' W D' (.deferred none)) (by omega) fun j ej => ?_
    cases ej
    omega
end Go.Proofs.Ytcjakgogdbfagaa
