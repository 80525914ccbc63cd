/- Layer 11: the document's Scan of a store. Layer 11: the law's comparison of pairs with the document's. -/
import Derived.Test.YtcjakgogdbfagaaDoorKL
import Derived.Test.YtcjakgogdbfagaaDoorKJ
namespace Go.Proofs.YtcjakgogdbfagaaDoor
open Go.RowKit
/-- At most so many, all if it is 0. -/
def capL (m : Int) (X : Kvs) : Kvs := if m = 0 then X else X.take m.toNat
/-- A pair that the document's Scan tells, but for the count. -/
def tellB (fr tk : Bt) (x : Bt × Bt) : Bool := !ltB x.1 fr && inB tk x
/-- What the document's Scan answers. -/
def scanA (L : Kvs) (fr tk : Bt) (m : Int) : Kvs := capL m (L.filter (tellB fr tk))
theorem capL_snoc (m : Int) (X : Kvs) (x : Bt × Bt) : capL m (X ++ [x]) = if m = 0 ∨ ((capL m X).length : Int) < m then capL m X ++ [x] else capL m X := by
  unfold capL
  by_cases h : m = 0
  · simp [h]
  · simp only [h, if_false, false_or]
    rw [List.length_take]
    split
    · rename_i hl
      have hx : X.length < m.toNat := by omega
      rw [List.take_of_length_le (by simp; omega), List.take_of_length_le (by omega)]
    · rename_i hl
      rw [List.take_append_of_le_length (by omega)]
theorem capL_len (m : Int) (X : Kvs) : (capL m X).length ≤ X.length := by
  unfold capL
  split
  · exact Nat.le_refl _
  · exact List.length_take_le' _ _
theorem inB_down {tk : Bt} {x y : Bt × Bt} (h : klt x.1 y.1) (hy : inB tk y = true) : inB tk x = true := by
  unfold inB ltB at *
  simp only [Bool.or_eq_true, decide_eq_true_eq] at *
  rcases hy with e | e
  · exact .inl e
  · exact .inr (klt_trans _ _ _ h e)
theorem cut_filter {tk : Bt} : ∀ {X : Kvs}, SrtL X → X.takeWhile (inB tk) = X.filter (inB tk)
  | [], _ => rfl
  | x :: X, s => by
    have s2 := List.pairwise_cons.1 s
    rw [List.takeWhile_cons, List.filter_cons]
    split
    · rw [cut_filter s2.2]
    · rename_i hx
      rw [eq_comm, List.filter_eq_nil_iff]
      intro y hy e
      exact hx (inB_down (s2.1 y hy) e)
theorem scanA_scanL {L : Kvs} (s : SrtL L) (fr tk : Bt) {m : Int} (_hm : 0 ≤ m) : scanA L fr tk m = scanL L fr tk m := by
  have hs : SrtL (fromL L fr) := List.Pairwise.filter _ s
  have hf : L.filter (tellB fr tk) = cutL tk (fromL L fr) := by
    rw [cutL_eq, cut_filter hs]
    unfold fromL
    rw [List.filter_filter]
    congr 1
    funext x
    unfold tellB ltB
    simp [Bool.and_comm]
  unfold scanA scanL capL
  rw [hf]
theorem scanA_neg {L : Kvs} {fr tk : Bt} {m : Int} (hm : m < 0) : scanA L fr tk m = [] := by
  unfold scanA capL
  rw [if_neg (by omega), show m.toNat = 0 by omega, List.take_zero]
theorem scanA_snoc {L : Kvs} {fr tk : Bt} {m : Int} {i : Nat} (h : i < L.length) : scanA (L.take (i + 1)) fr tk m = if tellB fr tk L[i] = true ∧ (m = 0 ∨ ((scanA (L.take i) fr tk m).length : Int) < m) then scanA (L.take i) fr tk m ++ [L[i]] else scanA (L.take i) fr tk m := by
  unfold scanA
  rw [List.take_succ_eq_append_getElem h, List.filter_append]
  by_cases e : tellB fr tk L[i] = true
  · rw [List.filter_cons_of_pos e, List.filter_nil, capL_snoc]
    simp [e]
  · rw [List.filter_cons_of_neg e, List.filter_nil, List.append_nil]
    simp [e]
theorem scanA_len (L : Kvs) (fr tk : Bt) (m : Int) : (scanA L fr tk m).length ≤ L.length := Nat.le_trans (capL_len _ _) (List.length_filter_le _ _)
/-- What Scan leaves. -/
def RScEnd (X : Kvs) (w : World) (e : Ending) (w' : World) : Prop := ∃ v, e = .returned v ∧ w'.ownsRow w.heap.size 72 2 v X.length (cellsP X) ∧ Below w.heap.size w w'
set_option maxRecDepth 100000 in
set_option maxHeartbeats 1000000 in
theorem rscan_any (rb : Nat) (v : Value) (L : Kvs) (w : World) (fr tk : Bt) (m : Int) (h : RfAt rb v L w) (hL : L.length ≤ 512) :
    Calls Tryd.prog 23 #[.pointer (some ⟨rb, 0, none⟩), sv fr, sv tk, .int .i64 m] w (RScEnd (scanA L fr tk m) w) := by
  obtain ⟨va, vc, rfl, _⟩ := h.form
  have HH := hidb h
  have c0 := h.c
  obtain ⟨n, hn⟩ : ∃ n, n = L.length := ⟨_, rfl⟩
  have Hn := hidb hn
  rw [← hn] at c0 hL
  clear h hn
  go_enter Tryd.func23, Tryd.ntmps23
  go_wp2_with fail
  go_loopw [9, 10] (fun ov iv wr => ∃ (i : Nat) (o : Value), iv = .int .i64 i ∧ ov = o ∧ i ≤ n ∧ Hid (wr.ownsRow w.heap.size 72 2 o (scanA (L.take i) fr tk m).length (cellsP (scanA (L.take i) fr tk m)) ∧ Below w.heap.size w wr)) (fun _ iv _ => n - (intOf iv).toNat)
  case atStart => exact ⟨0, _, rfl, rfl, Nat.zero_le _, hidb ⟨by rw [List.take_zero, show scanA [] fr tk m = [] by unfold scanA capL; simp]; exact World.ownsRow_nil _ _ _ _, Below.refl _ _⟩⟩
  case round =>
    obtain ⟨i, o, rfl, rfl, hi, HK⟩ := hrel
    have c0 := (HH.out.below HK.out.2).c
    rw [← Hn.out] at c0
    by_cases hlt : i < n
    · have hil : i < L.length := by rw [← Hn.out]; exact hlt
      obtain ⟨g, eg, hg, a0, a1⟩ := row_pairR (HH.out.below HK.out.2).row hil
      have HS := hidb (scanA_snoc (fr := fr) (tk := tk) (m := m) hil)
      have hlen : (scanA (L.take i) fr tk m).length ≤ 512 := by
        have := scanA_len (L.take i) fr tk m
        rw [List.length_take] at this
        omega
      obtain ⟨oa, oc, rfl, _⟩ := row_form HK.out.1
      subst eg
      generalize L[i] = x at *
      obtain ⟨xk, xv⟩ := x
      simp only at a0 a1
      have hj0 : (0 : Int) ≤ (i : Int) := by omega
      have hj1 : (i : Int) < (n : Int) := by omega
      generalize scanA (L.take i) fr tk m = acc at *
      obtain ⟨na, hna⟩ : ∃ na, na = acc.length := ⟨_, rfl⟩
      have hn5 : na ≤ 512 := by omega
      rw [← hna]
      have hhk : Hid (wr.ownsRow w.heap.size 72 2 (.slice oa na oc) na (cellsP acc) ∧ Below w.heap.size w wr) := by rw [hna]; exact HK
      clear HK HH Hn hil
      by_cases ht : tellB fr tk (xk, xv) = true ∧ (m = 0 ∨ (acc.length : Int) < m)
      · rw [if_pos ht] at HS
        have hb1 : Op.bytesLess xk fr = false := by
          have := ht.1
          unfold tellB ltB at this
          simp only [Bool.and_eq_true, Bool.not_eq_true', decide_eq_false_iff_not] at this
          simpa using this.1
        have h2 : tk = [] ∨ (∃ c tl, tk = c :: tl) ∧ Op.bytesLess xk tk = true := by
          have := ht.1
          unfold tellB inB ltB at this
          simp only [Bool.and_eq_true, Bool.or_eq_true, decide_eq_true_eq] at this
          cases tk with
          | nil => exact .inl rfl
          | cons c tl =>
            refine .inr ⟨⟨c, tl, rfl⟩, ?_⟩
            rcases this.2 with e | e
            · cases e
            · exact e
        have h3 : m = 0 ∨ (m == 0) = false ∧ decide ((na : Int) < m) = true := by
          by_cases e : m = 0
          · exact .inl e
          · refine .inr ⟨by simpa using e, ?_⟩
            rcases ht.2 with x | x
            · exact absurd x e
            · rw [hna]; exact decide_eq_true x
        have HE : Hid (∀ v' w6, w6.ownsRow w.heap.size 72 2 v' (na + 1) (cellsP acc ++ [sv xk, sv xv]) → Step (wr.alloc (.cells #[sv xk, sv xv] 72)) (.slice oa na oc) w6 v' → Hid (w6.ownsRow w.heap.size 72 2 v' (scanA (L.take (i + 1)) fr tk m).length (cellsP (scanA (L.take (i + 1)) fr tk m)) ∧ Below w.heap.size w w6)) := hidb fun v' w6 ho hs => hidb (by
          rw [HS.out, List.length_append, List.length_singleton, ← hna, cellsP_app]
          refine ⟨ho, ?_⟩
          have hbs := hhk.out.2.size
          refine (hhk.out.2.alloc hbs _).trans (hs.below (by simp; omega) fun q hq => ?_)
          exact (row_cells hhk.out.1 q hq).1)
        have HZ : Hid (∀ o, w.heap.size ≤ (wr.alloc o).heap.size) := hidb fun o => by have := hhk.out.2.size; simp; omega
        clear ht hna
        rcases h2 with rfl | ⟨⟨c, tl, rfl⟩, hb2⟩ <;> rcases h3 with rfl | ⟨hm1, hm2⟩
        all_goals
          go_wp2_with (first
            | (at_builtin; refine wpList_appN _ rfl _ _ 26 rfl elemN_pairR w.heap.size _ na (cellsP acc) rfl (World.ownsRow.alloc hhk.out.1 _) _ rfl 1 [sv xk, sv xv] (.inr ⟨⟨wr.heap.size, 0, none⟩, 1, rfl, cells_newb wr [sv xk, sv xv] _ _ rfl⟩) rfl (fun u hu => cellsP_one [(xk, xv)] u hu) (by unfold maxLen; omega) (by omega) (HZ.out _) ?_; intro v' w6 ho hs)
            | fail)
          exact ⟨⟨i + 1, _, by go_num, rfl, by omega, HE.out _ _ ho hs⟩, by simp [intOf]; omega⟩
      · rw [if_neg ht] at HS
        have HE : Hid (Hid (wr.ownsRow w.heap.size 72 2 (.slice oa na oc) (scanA (L.take (i + 1)) fr tk m).length (cellsP (scanA (L.take (i + 1)) fr tk m)) ∧ Below w.heap.size w wr)) := hidb (hidb (by rw [HS.out, ← hna]; exact hhk.out))
        have h1 : Op.bytesLess xk fr = true ∨ (Op.bytesLess xk fr = false ∧ ((∃ c tl, tk = c :: tl) ∧ Op.bytesLess xk tk = false ∨ ((tk = [] ∨ (∃ c tl, tk = c :: tl) ∧ Op.bytesLess xk tk = true) ∧ (m == 0) = false ∧ decide ((na : Int) < m) = false))) := by
          cases h1 : Op.bytesLess xk fr with
          | true => exact .inl rfl
          | false =>
            refine .inr ⟨rfl, ?_⟩
            have hl : ltB xk fr = false := by unfold ltB; simpa using h1
            have h3 : inB tk (xk, xv) = true → (m == 0) = false ∧ decide ((na : Int) < m) = false := fun hin => by
              have hn2 : ¬ (m = 0 ∨ (acc.length : Int) < m) := fun hc => ht ⟨by unfold tellB; simp only [hl, hin]; rfl, hc⟩
              refine ⟨by simp; intro e; exact hn2 (.inl e), ?_⟩
              rw [hna]
              exact decide_eq_false fun e => hn2 (.inr e)
            cases tk with
            | nil => exact .inr ⟨.inl rfl, h3 rfl⟩
            | cons c tl =>
              cases h2 : Op.bytesLess xk (c :: tl) with
              | false => exact .inl ⟨⟨c, tl, rfl⟩, rfl⟩
              | true => exact .inr ⟨.inr ⟨⟨c, tl, rfl⟩, rfl⟩, h3 (by unfold inB ltB; simpa using h2)⟩
        clear ht hna hhk
        rcases h1 with hb1 | ⟨hb1, ⟨⟨c, tl, rfl⟩, hb2⟩ | ⟨rfl | ⟨⟨c, tl, rfl⟩, hb2⟩, hm1, hm2⟩⟩
        all_goals
          go_wp2_with fail
          exact ⟨⟨i + 1, _, by go_num, rfl, by omega, HE.out⟩, by simp [intOf]; omega⟩
    · have et : L.take i = L := List.take_of_length_le (by rw [← Hn.out]; omega)
      rw [et] at HK
      clear et
      obtain ⟨oa, oc, rfl, _⟩ := row_form HK.out.1
      go_wp2_with fail
      go_ret
      exact ⟨_, rfl, HK.out.1, HK.out.2⟩
end Go.Proofs.YtcjakgogdbfagaaDoor
namespace Go.Proofs.YtcjakgogdbfagaaDoor
open Go.RowKit
/-- A row of the document's pairs lies there. -/
def DRow (va : Option Addr) (n vc : Nat) (X : Kvs) (w : World) : Prop := n = X.length ∧ ∃ B, w.ownsRow B 72 2 (.slice va n vc) X.length (cellsP X)
theorem DRow.below {va : Option Addr} {n vc : Nat} {X : Kvs} {w w' : World} (h : DRow va n vc X w) (k : Below w.heap.size w w') : DRow va n vc X w' := by
  obtain ⟨h1, B, h2⟩ := h
  exact ⟨h1, B, row_below2 h2 k⟩
theorem DRow.at {va : Option Addr} {n vc : Nat} {X : Kvs} {w : World} (h : DRow va n vc X w) {k : Nat} (hk : k < X.length) : ∃ g, va = some ⟨g, 0, none⟩ ∧ g < w.heap.size ∧ w.cell? ⟨g, k * 2, none⟩ = some (sv X[k].1) ∧ w.cell? ⟨g, k * 2 + 1, none⟩ = some (sv X[k].2) := by
  obtain ⟨h1, B, h2⟩ := h
  exact row_pairR h2 hk
set_option maxRecDepth 100000 in
set_option maxHeartbeats 1000000 in
theorem same11_yes (X : Kvs) (va vb : Option Addr) (n vc vd : Nat) (w : World) (hX : PRow va n vc X w) (hY : DRow vb n vd X w) (hn : n ≤ 1000000) :
    Calls Tryd.prog 21 #[.slice va n vc, .slice vb n vd] w fun e w' => e = .returned (.bool true) ∧ Below w.heap.size w w' := by
  have HX := hidb hX
  have HY := hidb hY
  clear hX hY
  go_enter Tryd.func21, Tryd.ntmps21
  go_wp2_with fail
  go_loopw [5] (fun iv wr => ∃ i : Nat, iv = .int .i64 i ∧ i ≤ n ∧ Hid (Below w.heap.size w wr)) (fun iv _ => n - (intOf iv).toNat)
  case atStart => exact ⟨0, rfl, Nat.zero_le _, hidb (Below.refl _ _)⟩
  case round =>
    obtain ⟨i, rfl, hi, HB⟩ := hrel
    by_cases hlt : i < n
    · have hil : i < X.length := by rw [← HX.out.1]; exact hlt
      obtain ⟨g, eg, hg, a0, a1⟩ := (HX.out.below HB.out).at hil
      obtain ⟨k, ek, hk, b0, b1⟩ := (HY.out.below HB.out).at hil
      subst eg ek
      generalize X[i].1 = xk at *
      generalize X[i].2 = xv at *
      have hj0 : (0 : Int) ≤ (i : Int) := by omega
      have hj1 : (i : Int) < (n : Int) := by omega
      have e1 : (xk == xk) = true := by simp
      have e2 : (xv == xv) = true := by simp
      clear HX HY
      go_wp2_with fail
      go_quiet (fail)
      go_wp2_with fail
      exact ⟨⟨i + 1, by go_num, by omega, hidb (below_drewN HB.out _)⟩, by simp [intOf]; omega⟩
    · clear HX HY
      go_wp2_with fail
      go_ret
      exact ⟨rfl, HB.out⟩
end Go.Proofs.YtcjakgogdbfagaaDoor
