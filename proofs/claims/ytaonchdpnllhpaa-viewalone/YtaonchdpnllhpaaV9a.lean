/- Layer 18: what one replica alone writes, plainly; a row of records whose logs lie apart. Layer 18: the law's town of one: what a replica has to do is done. Layer 18: the law's town of one: the replica comes back with what was written. Layer 18: the law's town of one is made. Layer 18: the town of one between its acts: request, works, crash. Layer 18: the town of one: each act. -/
import Derived.Test.YtaonchdpnllhpaaV8x
import Derived.Test.YtaonchdpnllhpaaMG
namespace Go.Proofs.Ytaonchdpnllhpaa
open Go.RowKit
def entA (As : List (List UInt8)) : List Ent := As.map fun d => ⟨0, d⟩
def recA (k : Nat) (d : List UInt8) : List Rec17 := [⟨2, 0, 0, k, [⟨0, d⟩]⟩, ⟨3, 0, 0, ((k + 1 : Nat) : Int), []⟩]
def recsA : Nat → List (List UInt8) → List Rec17
  | _, [] => []
  | k, d :: l => recA k d ++ recsA (k + 1) l
theorem recsA_snoc (l : List (List UInt8)) (d : List UInt8) : ∀ k, recsA k (l ++ [d]) = recsA k l ++ recA (k + l.length) d := by
  induction l with
  | nil => intro k; simp [recsA]
  | cons x l ih =>
    intro k
    simp only [List.cons_append, recsA, List.length_cons]
    rw [ih, List.append_assoc, show k + 1 + l.length = k + (l.length + 1) by omega]
theorem recsA_len (l : List (List UInt8)) : ∀ k, (recsA k l).length = 2 * l.length := by
  induction l with
  | nil => intro k; rfl
  | cons x l ih =>
    intro k
    simp only [recsA, List.length_append, List.length_cons]
    rw [ih]
    simp [recA]
    omega
theorem foldS_app (l m : List Rec17) : ∀ s, foldS s (l ++ m) = (foldS s l).bind fun t => foldS t m := by
  induction l with
  | nil => intro s; rfl
  | cons r l ih =>
    intro s
    simp only [List.cons_append, foldS]
    cases fol s r with
    | none => rfl
    | some t => exact ih t
theorem recA_ok (k : Nat) (d : List UInt8) (hk : k < 2048) (hd : d.length ≤ 16384) : (Rec17.mk 2 0 0 k [⟨0, d⟩]).ok = true ∧ (Rec17.mk 3 0 0 ((k + 1 : Nat) : Int) []).ok = true := by
  unfold Rec17.ok logOk inB
  constructor
  · simp [Ent.ok, inB]
    omega
  · simp
    omega
theorem fold_one (s : St17) (d : List UInt8) (h1 : s.vw = 0) (h2 : s.nm = 0) (h3 : s.cm = s.log.length) (hk : s.log.length < 2048) (hd : d.length ≤ 16384) : foldS s (recA s.log.length d) = some ⟨0, 0, ((s.log.length + 1 : Nat) : Int), s.log ++ [⟨0, d⟩]⟩ := by
  obtain ⟨k1, k2⟩ := recA_ok s.log.length d hk hd
  obtain ⟨vw, nm, cm, log⟩ := s
  simp only at h1 h2 h3
  subst h1 h2 h3
  have e1 : fol ⟨0, 0, log.length, log⟩ ⟨2, 0, 0, log.length, [⟨0, d⟩]⟩ = some ⟨0, 0, log.length, log ++ [⟨0, d⟩]⟩ := by
    unfold fol
    rw [if_neg (by rw [k1]; decide), if_neg (by show ¬ (2 : Int) = 1; decide), if_pos rfl]
    unfold folL
    simp only at hk
    rw [if_neg (by simp only [List.length_cons, List.length_nil, Int.toNat_natCast]; omega)]
    simp only [Int.toNat_natCast, List.take_length]
  have e2 : fol ⟨0, 0, log.length, log ++ [⟨0, d⟩]⟩ ⟨3, 0, 0, ((log.length + 1 : Nat) : Int), []⟩ = some ⟨0, 0, ((log.length + 1 : Nat) : Int), log ++ [⟨0, d⟩]⟩ := by
    unfold fol
    rw [if_neg (by rw [k2]; decide), if_neg (by show ¬ (3 : Int) = 1; decide), if_neg (by show ¬ (3 : Int) = 2; decide)]
    unfold folC
    rw [if_neg (by simp only [List.length_append, List.length_cons, List.length_nil]; omega)]
  unfold recA
  rw [foldS, e1]
  simp only
  rw [foldS, e2]
  rfl
theorem fold_recsA (As : List (List UInt8)) (hd : ∀ d ∈ As, d.length ≤ 16384) (hn : As.length ≤ 2048) : foldS zeroS (recsA 0 As) = some ⟨0, 0, As.length, entA As⟩ := by
  have h : ∀ n, n ≤ As.length → foldS zeroS (recsA 0 (As.take n)) = some ⟨0, 0, n, entA (As.take n)⟩ := by
    intro n
    induction n with
    | zero => intro _; rfl
    | succ n ih =>
      intro hle
      rw [List.take_succ_eq_append_getElem (by omega), recsA_snoc, foldS_app, ih (by omega)]
      have hl : (entA (As.take n)).length = n := by simp [entA]; omega
      have hf := fold_one ⟨0, 0, n, entA (As.take n)⟩ (As[n]'(by omega)) rfl rfl (by simp [hl]) (by simp only [hl]; omega) (hd _ (List.getElem_mem _))
      simp only [hl] at hf
      simp only [Option.bind_some, Nat.zero_add, List.length_take, Nat.min_eq_left (show n ≤ As.length by omega)]
      rw [hf]
      unfold entA
      rw [List.map_append]
      rfl
  have := h As.length (Nat.le_refl _)
  rwa [List.take_length] at this
/-- The cells of records, each log where P says. -/
def RecVals (P : Option Addr → Nat → List Ent → Prop) (xs : List Value) (R : List Rec17) : Prop := xs.length = R.length * 5 ∧ ∀ j (h : j < R.length), xs[j * 5]? = some (.int .i64 R[j].kd) ∧ xs[j * 5 + 1]? = some (.int .i64 R[j].vw) ∧ xs[j * 5 + 2]? = some (.int .i64 R[j].nm) ∧ xs[j * 5 + 3]? = some (.int .i64 R[j].op) ∧ ∃ a c, xs[j * 5 + 4]? = some (.slice a R[j].log.length c) ∧ P a c R[j].log
theorem RecVals.nil (P : Option Addr → Nat → List Ent → Prop) : RecVals P [] [] := ⟨rfl, fun j h => by simp at h⟩
theorem RecVals.mono {P Q : Option Addr → Nat → List Ent → Prop} {xs : List Value} {R : List Rec17} (h : RecVals P xs R) (hPQ : ∀ a c l, P a c l → Q a c l) : RecVals Q xs R :=
  ⟨h.1, fun j hj => by
    obtain ⟨h0, h1, h2, h3, a, c, h4, h5⟩ := h.2 j hj
    exact ⟨h0, h1, h2, h3, a, c, h4, hPQ _ _ _ h5⟩⟩
theorem RecVals.app {P : Option Addr → Nat → List Ent → Prop} {xs ys : List Value} {R S : List Rec17} (h : RecVals P xs R) (k : RecVals P ys S) : RecVals P (xs ++ ys) (R ++ S) := by
  refine ⟨by rw [List.length_append, List.length_append, h.1, k.1]; omega, fun j hj => ?_⟩
  by_cases hjr : j < R.length
  · obtain ⟨h0, h1, h2, h3, a, c, h4, h5⟩ := h.2 j hjr
    have hl := h.1
    rw [List.getElem_append_left hjr]
    exact ⟨by rw [List.getElem?_append_left (by omega)]; exact h0, by rw [List.getElem?_append_left (by omega)]; exact h1, by rw [List.getElem?_append_left (by omega)]; exact h2, by rw [List.getElem?_append_left (by omega)]; exact h3, a, c, by rw [List.getElem?_append_left (by omega)]; exact h4, h5⟩
  · have hjs : j - R.length < S.length := by rw [List.length_append] at hj; omega
    obtain ⟨h0, h1, h2, h3, a, c, h4, h5⟩ := k.2 (j - R.length) hjs
    have hl := h.1
    rw [List.getElem_append_right (by omega)]
    refine ⟨by rw [List.getElem?_append_right (by omega), show j * 5 - xs.length = (j - R.length) * 5 by omega]; exact h0, by rw [List.getElem?_append_right (by omega), show j * 5 + 1 - xs.length = (j - R.length) * 5 + 1 by omega]; exact h1, by rw [List.getElem?_append_right (by omega), show j * 5 + 2 - xs.length = (j - R.length) * 5 + 2 by omega]; exact h2, by rw [List.getElem?_append_right (by omega), show j * 5 + 3 - xs.length = (j - R.length) * 5 + 3 by omega]; exact h3, a, c, by rw [List.getElem?_append_right (by omega), show j * 5 + 4 - xs.length = (j - R.length) * 5 + 4 by omega]; exact h4, h5⟩
/-- Records that lie in a row of one's own, each log in its own, are there to be folded. -/
theorem RecVals.at_ {W : World} {base b2 n c : Nat} {a : Option Addr} {xs : List Value} {R : List Rec17} {lo : Option Nat} (h : RecVals (fun a c l => W.ownsRow base 56 2 (.slice a l.length c) l.length (cellsE l) ∧ ∀ q, (Value.slice a l.length c).ownBlock = some q → lo ≠ some q) xs R) (hr : W.ownsRow b2 85 5 (.slice a n c) n xs) (hs : ∀ r ∈ R, (∀ x ∈ r.log, x.d.length ≤ 9223372036854775807) ∧ r.log.length ≤ 9000000000000) : R.length = n ∧ RsAt17 W.cell? a R := by
  have hl := hr.1
  rw [h.1] at hl
  refine ⟨by omega, ?_⟩
  obtain ⟨a', c', e, -, -, hc⟩ := row_form hr
  injection e with e1 e2 e3
  rcases hc with ⟨q, q2, -⟩ | ⟨g, q, -, -, hc⟩
  · exact .inl (List.eq_nil_of_length_eq_zero (by omega))
  · refine .inr ⟨g, 0, by rw [e1, q], fun j hj => ?_⟩
    obtain ⟨h0, h1, h2, h3, la, lc, h4, h5⟩ := h.2 j hj
    rw [Nat.zero_add]
    obtain ⟨hn, a2, c2, e5, hE⟩ := es_of_row h5.1
    injection e5 with e5 e6 e7
    subst e5
    exact ⟨hc _ _ h0, hc _ _ h1, hc _ _ h2, hc _ _ h3, la, lc, hc _ _ h4, ⟨rfl, hE, (hs _ (List.getElem_mem _)).1, (hs _ (List.getElem_mem _)).2⟩⟩
end Go.Proofs.Ytaonchdpnllhpaa
namespace Go.Proofs.Ytaonchdpnllhpaa
open Go.RowKit
/-- What works leaves: the records stand behind those that were written. -/
def WorksEnd (base wb m k : Nat) (xs ys : List Value) (sv : Value) (w w' : World) : Prop := ∃ sa ac, w'.ownsRow base 85 5 (.slice sa (m + k) ac) (m + k) (xs ++ ys) ∧ w'.heap[wb]? = some (.cells #[.slice sa (m + k) ac] 32 (0, 0)) ∧ Chg w w' (fun j => j = wb ∨ sv.ownBlock = some j) ∧ ((Value.slice sa (m + k) ac).ownBlock = sv.ownBlock ∨ ∃ g, (Value.slice sa (m + k) ac).ownBlock = some g ∧ w.heap.size ≤ g)
set_option maxRecDepth 100000 in
set_option maxHeartbeats 2000000 in
theorem works1_18 {tb wb base m ac k yc dc : Nat} {Rv Nv Dv av : Value} {sa ya d0 : Option Addr} {xs ys : List Value} (ki ii kk cut : Int) (w : World) (hT : w.heap[tb]? = some (.cells #[.int .i64 1, Rv, .slice (some ⟨wb, 0, none⟩) 1 1, Nv, Dv, av] 50 (0, 0))) (hW : w.heap[wb]? = some (.cells #[.slice sa m ac] 32 (0, 0))) (hr : w.ownsRow base 85 5 (.slice sa m ac) m xs) (hy : Lies w (.slice ya k yc) k ys) (hyl : ys.length = k * 5) (h1 : ∀ u ∈ ys, u.oneCell' = true) (hm : m ≤ 90000) (hk : k ≤ 1000) (hb : base ≤ w.heap.size) : Calls Try.prog 12 #[.pointer (some ⟨tb, 0, none⟩), .int .i64 0, .agg #[.slice ya k yc, .slice d0 0 dc], .agg #[.int .i64 ki, .int .i64 ii, .int .i64 kk, .int .i64 cut, .bool false]] w fun e w' => e = .returned (.bool true) ∧ WorksEnd base wb m k xs ys (.slice sa m ac) w w' := by
  obtain ⟨W1, hW1⟩ : ∃ W1, W1 = w.alloc (.cells #[.slice ya k yc, .slice d0 0 dc] 35) := ⟨_, rfl⟩
  obtain ⟨W2, hW2⟩ : ∃ W2, W2 = W1.alloc (.cells #[.int .i64 ki, .int .i64 ii, .int .i64 kk, .int .i64 cut, .bool false] 53) := ⟨_, rfl⟩
  have B1 : Below w.heap.size w W1 := by rw [hW1]; exact (Below.refl _ w).alloc (Nat.le_refl _) _
  have X1 : W1.heap[w.heap.size]? = some (.cells #[.slice ya k yc, .slice d0 0 dc] 35 (0, 0)) := by rw [hW1]; exact heap_alloc_new _ _
  have b2 : Below W1.heap.size W1 W2 := by rw [hW2]; exact (Below.refl _ W1).alloc (Nat.le_refl _) _
  have B2 : Below w.heap.size w W2 := B1.trans (b2.mono B1.size)
  have X2 : W2.heap[w.heap.size]? = some (.cells #[.slice ya k yc, .slice d0 0 dc] 35 (0, 0)) := (b2.block _ (lt_of_block X1)).trans X1
  have z2 : w.heap.size < W2.heap.size := lt_of_block X2
  have T2 := (B2.block _ (lt_of_block hT)).trans hT
  have V2 := (B2.block _ (lt_of_block hW)).trans hW
  have r2 := World.ownsRow.drew (row_below2 hr B2)
  have y2 : Lies W2.drew (.slice ya k yc) k ys := hy.keep fun a v h => by
    have := below_keep18 B2 a v h
    exact below_keep18 (below_drew18 W2) a v this
  have HD : Hid (∀ v6 W6, W6.ownsRow base 85 5 v6 (m + k) (xs ++ ys) → Step W2.drew (.slice sa m ac) W6 v6 → (W6.cell? ⟨tb, 2, none⟩ = some (.slice (some ⟨wb, 0, none⟩) 1 1) ∧ W6.cell? ⟨wb, 0, none⟩ = some (.slice sa m ac) ∧ W6.cell? ⟨w.heap.size, 0, none⟩ = some (.slice ya k yc) ∧ W6.cell? ⟨w.heap.size, 1, none⟩ = some (.slice d0 0 dc) ∧ W6.frozen? ⟨wb, 0, none⟩ = false ∧ tb < W6.heap.size ∧ wb < W6.heap.size ∧ w.heap.size < W6.heap.size ∧ w.heap.size ≠ wb ∧ tb ≠ wb) ∧ (W6.setCell ⟨wb, 0, none⟩ v6).heap[w.heap.size]? = some (.cells #[.slice ya k yc, .slice d0 0 dc] 35 (0, 0)) ∧ WorksEnd base wb m k xs ys (.slice sa m ac) w (W6.setCell ⟨wb, 0, none⟩ v6)) := hid fun v6 W6 hr6 st6 => by
    have g6 : Chg W2 W6 (fun j => (Value.slice sa m ac).ownBlock = some j) := by
      have := (Chg.drew W2 (fun j => (Value.slice sa m ac).ownBlock = some j)).trans (Chg.of_grown st6.1) fun _ _ e => e
      exact this
    have kT := (g6.block _ (lt_of_block T2) (row_apart18 (row_below2 hr B2) T2 (by decide))).trans T2
    have kW := (g6.block _ (lt_of_block V2) (row_apart18 (row_below2 hr B2) V2 (by decide))).trans V2
    have kX := (g6.block _ (lt_of_block X2) (row_apart18 (row_below2 hr B2) X2 (by decide))).trans X2
    have n1 : w.heap.size ≠ wb := Nat.ne_of_gt (lt_of_block hW)
    have n2 : tb ≠ wb := fun e => by
      rw [e, hW] at hT
      injection hT with hT
      injection hT with hT
      exact absurd (congrArg Array.size hT) (by decide : ¬ (1 : Nat) = 6)
    obtain ⟨sa6, c6, rfl, -⟩ := row_form hr6
    refine ⟨⟨by rw [Lib.cell_of_heap kT]; rfl, by rw [Lib.cell_of_heap kW]; rfl, by rw [Lib.cell_of_heap kX]; rfl, by rw [Lib.cell_of_heap kX]; rfl, Lib.frozen_of_heap kW 0, lt_of_block kT, lt_of_block kW, lt_of_block kX, n1, n2⟩, (heap_setCell_other _ _ _ _ fun e => n1 e).trans kX, sa6, c6, row_keep18 hr6 (row_apart18 hr6 kW (by decide)) _, heap_setCell_same _ _ _ _ _ _ kW, ?_, ?_⟩
    · refine ((Chg.of_below B2).trans (g6.mono fun _ _ e => Or.inr e) fun _ _ e => e).trans (Chg.setCell _ _ _) fun i _ e => .inl e
    · rcases st6.2 with e | ⟨g, e, hg⟩
      · exact .inl e
      · exact .inr ⟨g, e, Nat.le_trans B2.size hg⟩
  have c2 : W2.cell? ⟨tb, 2, none⟩ = some (.slice (some ⟨wb, 0, none⟩) 1 1) := by rw [Lib.cell_of_heap T2]; rfl
  have c0 : W2.cell? ⟨wb, 0, none⟩ = some (.slice sa m ac) := by rw [Lib.cell_of_heap V2]; rfl
  have x0 : W2.cell? ⟨w.heap.size, 0, none⟩ = some (.slice ya k yc) := by rw [Lib.cell_of_heap X2]; rfl
  have l0 := lt_of_block T2
  have l1 := lt_of_block V2
  have H1 := hid h1
  have hb2 : base ≤ W2.drew.heap.size := Nat.le_trans hb B2.size
  rw [hW1] at hW2
  clear hT hW hr hy h1 hW1 B1 X1 b2 B2 X2 T2 V2 hb
  go_enter Try.func12, Try.ntmps12
  go_wp2_with fail
  rw [← hW2]
  clear hW2
  go_cut [] (fun wx => wx.cell? ⟨w.heap.size, 1, none⟩ = some (.slice d0 0 dc) ∧ w.heap.size < wx.heap.size ∧ Hid (WorksEnd base wb m k xs ys (.slice sa m ac) w wx))
  case first =>
    go_region_law (first
        | (refine step_appN _ rfl (.tmp 62) (.tmp 64) 32 rfl elemN_rec18 base (.slice sa m ac) m xs rfl r2 _ rfl k ys y2 hyl H1.out (by unfold maxLen; omega) (by omega) hb2 ?_; intro v6 W6 hr6 st6; obtain ⟨a6, c6, e6, -⟩ := row_form hr6; subst e6; obtain ⟨⟨d2, d0', d3, d4, d5, d6, d7, d8, d9, d10⟩, dR⟩ := HD.out _ _ hr6 st6; have HR := hid dR; clear hr6 st6 r2 y2 dR c2 c0 x0 l0 l1 z2 hb2)
        | fail)
    all_goals
      go_wp2_with fail
      go_meet
      exact ⟨by rw [Lib.cell_of_heap HR.out.1]; rfl, lt_of_block HR.out.1, hid HR.out.2⟩
  case rest =>
    obtain ⟨k0, k1, hE⟩ := hcut
    go_wp2_with fail
    go_loopw [10] (fun iv wr => iv = .int .i64 0 ∧ wc = wr) (fun _ _ => 0)
    case atStart => exact ⟨rfl, rfl⟩
    case round =>
      obtain ⟨rfl, rfl⟩ := hrel
      go_wp2_with fail
      go_ret
      exact ⟨rfl, hE.out⟩
end Go.Proofs.Ytaonchdpnllhpaa
namespace Go.Proofs.Ytaonchdpnllhpaa
open Go.RowKit
theorem recsA_logs (l : List (List UInt8)) (hd : ∀ d ∈ l, d.length ≤ 16384) : ∀ k, ∀ r ∈ recsA k l, (∀ x ∈ r.log, x.d.length ≤ 9223372036854775807) ∧ r.log.length ≤ 9000000000000 := by
  induction l with
  | nil => intro k r hr; simp [recsA] at hr
  | cons d l ih =>
    intro k r hr
    simp only [recsA, recA, List.mem_append, List.mem_cons, List.not_mem_nil, or_false] at hr
    have h0 := hd d (by simp)
    rcases hr with (rfl | rfl) | hr
    · refine ⟨fun x hx => ?_, by simp⟩
      simp only [List.mem_cons, List.not_mem_nil, or_false] at hx
      subst hx
      show d.length ≤ _
      omega
    · exact ⟨fun x hx => by simp at hx, by simp⟩
    · exact ih (fun d h => hd d (by simp [h])) _ r hr
theorem entA_ok (As : List (List UInt8)) (hd : ∀ d ∈ As, d.length ≤ 16384) (hn : As.length ≤ 2048) : logOk (entA As) = true := by
  unfold logOk entA
  simp only [Bool.and_eq_true, decide_eq_true_eq, List.length_map, List.all_eq_true]
  refine ⟨hn, fun x hx => ?_⟩
  obtain ⟨d, h, rfl⟩ := List.mem_map.1 hx
  have := hd d h
  unfold Ent.ok inB
  simp
  exact this
/-- A replica stays what it is when a box that is none of its own is written. -/
theorem RA.other {R : RC} {x : Pt} {mt : List Nat} {la : Option Addr} {ln lc : Nat} {L : List Ent} {W : World} (h : RA R x mt la ln lc L W) {X o : Nat} {cs : Array Value} {e : TypeId} (hx : W.heap[X]? = some (.cells cs e (0, 0))) (h1 : 56 ≠ e) (h2 : 3 ≠ e) (h3 : 67 ≠ e) (h4 : 72 ≠ e) (u : Value) : RA R x mt la ln lc L (W.setCell ⟨X, o, none⟩ u) := by
  refine ⟨?_, ?_, row_keep18 h.l (row_apart18 h.l hx h1) _, row_keep18 h.k (row_apart18 h.k hx h2) _, by simpa [World.setCell] using h.z⟩
  · refine (heap_setCell_other _ _ _ _ fun q => ?_).trans h.b
    have h5 := h.b
    rw [q, hx] at h5
    injection h5 with h5
    injection h5 with _ h5
    exact h3 h5.symm
  · refine (heap_setCell_other _ _ _ _ fun q => ?_).trans h.p
    have h5 := h.p
    unfold PtAt at h5
    rw [q, hx] at h5
    injection h5 with h5
    injection h5 with _ h5
    exact h4 h5.symm
/-- The row of replicas: who is the first. -/
def RRow (rr : Nat) (v : Value) (W : World) : Prop := ∃ cs : Array Value, W.heap[rr]? = some (.cells cs 23 (0, 0)) ∧ cs[0]? = some v
theorem RRow.set {rr : Nat} {v u : Value} {W : World} (h : RRow rr v W) : RRow rr u (W.setCell ⟨rr, 0, none⟩ u) := by
  obtain ⟨cs, h1, h2⟩ := h
  refine ⟨_, heap_setCell_same _ _ _ _ _ _ h1, ?_⟩
  have h3 := (Array.getElem?_eq_some_iff.1 h2).1
  simp [h3]
theorem RRow.of_block {rr : Nat} {v : Value} {W W' : World} (h : RRow rr v W) (hb : W'.heap[rr]? = W.heap[rr]?) : RRow rr v W' := by
  obtain ⟨cs, h1, h2⟩ := h
  exact ⟨cs, hb.trans h1, h2⟩
theorem RRow.lt {rr : Nat} {v : Value} {W : World} (h : RRow rr v W) : rr < W.heap.size := by
  obtain ⟨cs, h1, -⟩ := h
  exact lt_of_block h1
theorem RRow.cell {rr : Nat} {v : Value} {W : World} (h : RRow rr v W) : W.cell? ⟨rr, 0, none⟩ = some v ∧ W.frozen? ⟨rr, 0, none⟩ = false := by
  obtain ⟨cs, h1, h2⟩ := h
  exact ⟨(Lib.cell_of_heap h1 0).trans h2, Lib.frozen_of_heap h1 0⟩
/-- How Crash ends. -/
def CrashEnd (rr : Nat) (As : List (List UInt8)) (w w' : World) : Prop := ∃ R la lc, RA R (ptL 1 As.length) [0] la As.length lc (entA As) w' ∧ w.heap.size ≤ R.base ∧ w.heap.size ≤ R.pb ∧ w.heap.size ≤ R.rb ∧ RRow rr (.pointer (some ⟨R.rb, 0, none⟩)) w' ∧ Chg w w' (fun j => j = rr)
set_option maxRecDepth 100000 in
set_option maxHeartbeats 2000000 in
theorem crash1_18 {tb wb rr rc base b2 m ac : Nat} {Nv Dv av pv : Value} {sa : Option Addr} {xs : List Value} {lo : Option Nat} {As : List (List UInt8)} (w : World) (hT : w.heap[tb]? = some (.cells #[.int .i64 1, .slice (some ⟨rr, 0, none⟩) 1 rc, .slice (some ⟨wb, 0, none⟩) 1 1, Nv, Dv, av] 50 (0, 0))) (hR : RRow rr pv w) (hW' : w.heap[wb]? = some (.cells #[.slice sa m ac] 32 (0, 0))) (hr : w.ownsRow b2 85 5 (.slice sa m ac) m xs) (hv : RecVals (fun a c l => w.ownsRow base 56 2 (.slice a l.length c) l.length (cellsE l) ∧ ∀ q, (Value.slice a l.length c).ownBlock = some q → lo ≠ some q) xs (recsA 0 As)) (hd : ∀ d ∈ As, d.length ≤ 16384) (hn : As.length ≤ 2048) : Calls Try.prog 13 #[.pointer (some ⟨tb, 0, none⟩), .int .i64 0] w fun e w' => e = .returned (.bool true) ∧ CrashEnd rr As w w' := by
  obtain ⟨hlen, hAt⟩ := hv.at_ hr (recsA_logs As hd 0)
  have HF : Hid (∀ W, Below w.heap.size w W → Calls Try.prog 27 #[.slice sa m ac] W fun e w' => ∃ a c, e = .returned (.tuple #[.agg #[.int .i64 0, .int .i64 0, .int .i64 As.length, .slice a As.length c], .bool true]) ∧ EsAt w'.cell? a (entA As) ∧ Below W.heap.size W w') := hid fun W hW => by
    refine (fold_any17 sa m ac (recsA 0 As) W hlen (hAt.keep (below_keep18 hW)) (by rw [← hlen, recsA_len]; omega)).mono ?_
    rintro e w' ⟨hb, ⟨h1, -⟩ | ⟨s, a, c, h1, rfl, h2⟩⟩
    · rw [fold_recsA As hd hn] at h1
      cases h1
    · rw [fold_recsA As hd hn] at h1
      injection h1 with h1
      subst h1
      have hl : (entA As).length = As.length := by simp [entA]
      rw [hl] at h2
      obtain ⟨-, a', c', e5, hE⟩ := es_of_row h2
      injection e5 with e5 e6 e7
      subst e5
      exact ⟨a, c, by rw [hl], hE, hb⟩
  have HN : Hid (∀ (W : World) a c, EsAt W.cell? a (entA As) → Calls Try.prog 5 #[.int .i64 0, .int .i64 1, .agg #[.int .i64 0, .int .i64 0, .int .i64 As.length, .slice a As.length c]] W fun e w' => ∃ R la lc, e = .returned (.tuple #[.pointer (some ⟨R.rb, 0, none⟩), .int .i64 0]) ∧ RA R (ptL 1 As.length) [0] la As.length lc (entA As) w' ∧ R.base = W.heap.size ∧ W.heap.size ≤ R.pb ∧ W.heap.size ≤ R.rb ∧ Below W.heap.size W w') := hid fun W a c hE =>
    new_any18 0 0 As.length (entA As) a As.length c 0 1 W (.inl rfl) (by omega) (by omega) (by omega) (by omega) (by omega) (by omega) (by simp [entA]) (entA_ok As hd hn) hE
  have HU : Hid (∀ W, Calls Try.prog 6 #[.int .i64 0] W fun e w' => e = .returned (.int .i64 0) ∧ w' = W) := hid fun W => num18_any 0 W
  have HS : Hid (∀ W, Below w.heap.size w W → W.cell? ⟨tb, 0, none⟩ = some (.int .i64 1) ∧ W.cell? ⟨tb, 1, none⟩ = some (.slice (some ⟨rr, 0, none⟩) 1 rc) ∧ W.cell? ⟨tb, 2, none⟩ = some (.slice (some ⟨wb, 0, none⟩) 1 1) ∧ W.cell? ⟨wb, 0, none⟩ = some (.slice sa m ac) ∧ W.frozen? ⟨rr, 0, none⟩ = false ∧ W.cell? ⟨rr, 0, none⟩ = some pv ∧ tb < W.heap.size ∧ wb < W.heap.size ∧ rr < W.heap.size) := hid fun W hW => by
    have kT := (hW.block _ (lt_of_block hT)).trans hT
    have kR := hR.of_block (hW.block _ hR.lt)
    have kW := (hW.block _ (lt_of_block hW')).trans hW'
    exact ⟨by rw [Lib.cell_of_heap kT]; rfl, by rw [Lib.cell_of_heap kT]; rfl, by rw [Lib.cell_of_heap kT]; rfl, by rw [Lib.cell_of_heap kW]; rfl, kR.cell.2, kR.cell.1, lt_of_block kT, lt_of_block kW, kR.lt⟩
  have HEnd : Hid (∀ (R : RC) la lc W8, Below w.heap.size w W8 → RA R (ptL 1 As.length) [0] la As.length lc (entA As) W8 → w.heap.size ≤ R.base → w.heap.size ≤ R.pb → w.heap.size ≤ R.rb → CrashEnd rr As w (W8.setCell ⟨rr, 0, none⟩ (.pointer (some ⟨R.rb, 0, none⟩)))) := hid fun R la lc W8 h8 ha e1 e2 e3 => by
    have kR := hR.of_block (h8.block _ hR.lt)
    have kR2 := kR
    obtain ⟨cs, kR1, -⟩ := kR
    exact ⟨R, la, lc, ha.other kR1 (by decide) (by decide) (by decide) (by decide) _, e1, e2, e3, kR2.set, (Chg.of_below h8).trans (Chg.setCell _ _ _) fun i _ e => e⟩
  obtain ⟨c0, c1, c2, d0, f0, d1, l0, l1, l2⟩ := HS.out w (Below.refl _ _)
  clear hT hR hW' hr hv hAt
  have HF0 := hid (HF.out w (Below.refl _ _))
  clear HF
  go_enter Try.func13, Try.ntmps13
  go_wp2_with (first
    | (go_at_call 27; refine HF0.out.mono ?_; clear HF0; rintro e W1 ⟨fa, fc, rfl, hE, b1⟩; have hE := hid hE; clear c0 c1 c2 d0 f0 d1 l0 l1 l2)
    | fail)
  obtain ⟨W2, hW2⟩ : ∃ W2, W2 = W1.alloc (.cells #[.int .i64 0, .int .i64 0, .int .i64 As.length, .slice fa As.length fc] 29) := ⟨_, rfl⟩
  have b2 : Below W1.heap.size W1 W2 := by rw [hW2]; exact (Below.refl _ W1).alloc (Nat.le_refl _) _
  have X2 : W2.heap[W1.heap.size]? = some (.cells #[.int .i64 0, .int .i64 0, .int .i64 As.length, .slice fa As.length fc] 29 (0, 0)) := by rw [hW2]; exact heap_alloc_new _ _
  have B2 := b1.trans (b2.mono b1.size)
  rw [← hW2]
  clear hW2
  have HQ : Hid (∀ W, Below W2.heap.size W2 W → W.cell? ⟨tb, 0, none⟩ = some (.int .i64 1) ∧ W.cell? ⟨W1.heap.size, 0, none⟩ = some (.int .i64 0) ∧ W.cell? ⟨W1.heap.size, 1, none⟩ = some (.int .i64 0) ∧ W.cell? ⟨W1.heap.size, 2, none⟩ = some (.int .i64 As.length) ∧ W.cell? ⟨W1.heap.size, 3, none⟩ = some (.slice fa As.length fc)) := hid fun W hW => by
    have kX := (hW.block _ (lt_of_block X2)).trans X2
    exact ⟨(HS.out W (B2.trans (hW.mono B2.size))).1, by rw [Lib.cell_of_heap kX]; rfl, by rw [Lib.cell_of_heap kX]; rfl, by rw [Lib.cell_of_heap kX]; rfl, by rw [Lib.cell_of_heap kX]; rfl⟩
  obtain ⟨c0, s0, s1, s2, s3⟩ := HQ.out W2 (Below.refl _ _)
  have l0 := (HS.out W2 B2).2.2.2.2.2.2.1
  have l1 := lt_of_block X2
  have HN2 := hid (HN.out W2.drew fa fc (hE.out.keep fun a v h => below_keep18 (below_drew18 W2) a v (below_keep18 b2 a v h)))
  clear hE HN
  go_region_held3 (fun W => W.cell? ⟨tb, 0, none⟩ = some (.int .i64 1) ∧ W.cell? ⟨W1.heap.size, 0, none⟩ = some (.int .i64 0) ∧ W.cell? ⟨W1.heap.size, 1, none⟩ = some (.int .i64 0) ∧ W.cell? ⟨W1.heap.size, 2, none⟩ = some (.int .i64 As.length) ∧ W.cell? ⟨W1.heap.size, 3, none⟩ = some (.slice fa As.length fc)) (first | go_keep | exact HQ.out _ b3) (first
    | (go_at_call 5; refine HN2.out.mono ?_; clear HN2; rintro e W3 ⟨R, la, lc, rfl, ha, e1, e2, e3, b3'⟩; have b3 := (Below.refl _ W2).drew.trans b3'; have B3 := B2.trans (b3.mono B2.size); clear b3'))
  clear c0 s0 s1 s2 s3 l0 l1
  obtain ⟨-, c1, -, -, f0, d1, l0, -, l2⟩ := HS.out W3 B3
  have hE := hid (HEnd.out R la lc)
  have hA := hid ha
  have z1 : w.heap.size ≤ R.base := by rw [e1]; exact B2.size
  have z2 : w.heap.size ≤ R.pb := Nat.le_trans B2.size e2
  have z3 : w.heap.size ≤ R.rb := Nat.le_trans B2.size e3
  clear ha HEnd e1 e2 e3
  go_wp2_with (first
    | (go_at_call 6; refine (HU.out _).mono ?_; rintro e V ⟨rfl, hV⟩; replace hV := hV.symm; subst hV)
    | fail)
  go_ret
  exact ⟨rfl, hE.out W3 B3 hA.out z1 z2 z3⟩
end Go.Proofs.Ytaonchdpnllhpaa
namespace Go.Proofs.Ytaonchdpnllhpaa
open Go.RowKit
/-- A town of one that is new. -/
def TownNew (w : World) (e : Ending) (w' : World) : Prop := ∃ tb rr rc R la lc, e = .returned (.pointer (some ⟨tb, 0, none⟩)) ∧ w'.heap[tb]? = some (.cells #[.int .i64 1, .slice (some ⟨rr, 0, none⟩) 1 rc, .slice (some ⟨w.heap.size, 0, none⟩) 1 1, .slice none 0 0, .slice none 0 0, .int .i64 0] 50 (0, 0)) ∧ RRow rr (.pointer (some ⟨R.rb, 0, none⟩)) w' ∧ w'.heap[w.heap.size]? = some (.cells #[.slice none 0 0] 32 (0, 0)) ∧ RB R (ptL 1 0) [0] la 0 lc [] w w' ∧ w.heap.size ≤ tb ∧ w.heap.size ≤ rr
theorem make18w : ∀ V : World, (Instr.makeSlice 48 (.int .i64 1) (.int .i64 1)).run Try.prog V = .ok (.slice (some ⟨V.heap.size, 0, none⟩) 1 1) (V.alloc (.cells #[.slice none 0 0] 32)) := by
  intro V
  obtain ⟨i0, hi, hz0, hz1, hz2⟩ := info_parts (show (Try.prog.info? 32).map (fun i => (i.zero, i.size, i.bytes)) = some (some (.slice none 0 0), 1, 24) by kernel_rfl)
  have hr := run_make (P := Try.prog) V 48 32 i0 (.slice none 0 0) Try.underlying48 hi hz0 .i64 .i64 1 1 (by omega) (by omega) (by rw [hz2]; omega) (by omega)
  rw [hr, hz1]
  have e : madeCells (Value.slice none 0 0).cells (Int.toNat 1 * 1) = #[.slice none 0 0] := by
    kernel_rfl
  rw [e]
  rfl
set_option maxRecDepth 100000 in
set_option maxHeartbeats 2000000 in
theorem town1_18 (w : World) : Calls Try.prog 11 #[.int .i64 1] w (TownNew w) := by
  have HN : Hid (∀ W : World, Calls Try.prog 5 #[.int .i64 0, .int .i64 1, .agg #[.int .i64 0, .int .i64 0, .int .i64 0, .slice none 0 0]] W fun e w' => ∃ R la lc, e = .returned (.tuple #[.pointer (some ⟨R.rb, 0, none⟩), .int .i64 0]) ∧ RB R (ptL 1 0) [0] la 0 lc [] W w') := hid fun W => new_rb18 1 0 W (.inl rfl) (by omega)
  have HU : Hid (∀ W, Calls Try.prog 6 #[.int .i64 0] W fun e w' => e = .returned (.int .i64 0) ∧ w' = W) := hid fun W => num18_any 0 W
  have hmk := make18w
  go_enter Try.func11, Try.ntmps11
  go_wp2_with fail
  obtain ⟨W1, hW1⟩ : ∃ W1, W1 = (w.alloc (.cells #[.slice none 0 0] 32)).alloc (.cells #[.int .i64 1, .slice none 0 0, .slice (some ⟨w.heap.size, 0, none⟩) 1 1, .slice none 0 0, .slice none 0 0, .int .i64 0] 50) := ⟨_, rfl⟩
  obtain ⟨tB, htB⟩ : ∃ tB, tB = w.heap.size + 1 := ⟨_, rfl⟩
  have hz : W1.heap.size = w.heap.size + 2 := by rw [hW1]; simp
  have B1 : Below w.heap.size w W1 := by rw [hW1]; exact (two_boxes _ _ _ _ _).2
  have T1 : W1.heap[tB]? = some (.cells #[.int .i64 1, .slice none 0 0, .slice (some ⟨w.heap.size, 0, none⟩) 1 1, .slice none 0 0, .slice none 0 0, .int .i64 0] 50 (0, 0)) := by rw [hW1, htB]; exact (two_boxes _ _ _ _ _).1
  have V1 : W1.heap[w.heap.size]? = some (.cells #[.slice none 0 0] 32 (0, 0)) := by rw [hW1, Below.heap_alloc _ _ _ (by simp)]; exact heap_alloc_new w _
  have lt1 : w.heap.size < tB := by omega
  rw [← hW1, ← htB]
  clear hW1 htB
  go_loopw [4] (fun iv wr => (iv = .int .i64 0 ∧ wr = W1) ∨ (iv = .int .i64 1 ∧ Hid (TownNew w (.returned (.pointer (some ⟨tB, 0, none⟩))) wr))) (fun iv _ => 1 - (intOf iv).toNat)
  case atStart => exact .inl ⟨rfl, rfl⟩
  case round =>
    rcases hrel with ⟨rfl, hwr⟩ | ⟨rfl, h⟩
    · subst hwr
      have HN1 := hid (HN.out wr)
      clear HN
      have HS : Hid (∀ W, Below wr.heap.size wr W → W.cell? ⟨tB, 1, none⟩ = some (.slice none 0 0) ∧ W.frozen? ⟨tB, 1, none⟩ = false ∧ tB < W.heap.size) := hid fun W hW => by
        have kT := (hW.block _ (lt_of_block T1)).trans T1
        exact ⟨by rw [Lib.cell_of_heap kT]; rfl, Lib.frozen_of_heap kT 1, lt_of_block kT⟩
      go_wp2_with (first
        | (go_at_call 5; refine HN1.out.mono ?_; clear HN1; rintro e W2 ⟨R, la, lc, rfl, h2⟩; obtain ⟨c1, f1, l1⟩ := HS.out W2 h2.b)
        | (go_at_call 6; refine (HU.out _).mono ?_; rintro e V ⟨rfl, hV⟩; replace hV := hV.symm; subst hV)
        | fail)
      refine ⟨.inr ⟨rfl, hid ?_⟩, by simp [intOf]⟩
      generalize (Question.appendCap 1 0 23).cut (W2.tape W2.drawn (Question.appendCap 1 0 23)) = cc
      obtain ⟨W3, hW3⟩ : ∃ W3, W3 = W2.setCell ⟨tB, 1, none⟩ (.slice (some ⟨W2.heap.size + 1, 0, none⟩) 1 cc) := ⟨_, rfl⟩
      have z3 : W3.heap.size = W2.heap.size := by rw [hW3]; simp [World.setCell]
      have T2 := (h2.b.block _ (lt_of_block T1)).trans T1
      have V2 := (h2.b.block _ (lt_of_block V1)).trans V1
      have T3 : W3.heap[tB]? = some (.cells #[.int .i64 1, .slice (some ⟨W2.heap.size + 1, 0, none⟩) 1 cc, .slice (some ⟨w.heap.size, 0, none⟩) 1 1, .slice none 0 0, .slice none 0 0, .int .i64 0] 50 (0, 0)) := by rw [hW3]; exact heap_setCell_same _ _ _ _ _ _ T2
      have V3 : W3.heap[w.heap.size]? = some (.cells #[.slice none 0 0] 32 (0, 0)) := by rw [hW3]; exact (heap_setCell_other _ _ _ _ fun e => by have e' : w.heap.size = tB := e; omega).trans V2
      have A3 : RA R (ptL 1 0) [0] la 0 lc [] W3 := by rw [hW3]; exact h2.a.other T2 (by decide) (by decide) (by decide) (by decide) _
      have B3 : Below w.heap.size w W3 := by rw [hW3]; exact (B1.trans (h2.b.mono B1.size)).setCell (Nat.le_of_lt lt1) _
      rw [← hW3]
      rw [← z3] at T3
      have b4 := two_boxes W3 #[.pointer (some ⟨R.rb, 0, none⟩)] (#[.pointer (some ⟨R.rb, 0, none⟩)] ++ Builtin.zeroCells #[.pointer none] (cc - 1)) 23 23
      generalize ((W3.alloc (.cells #[.pointer (some ⟨R.rb, 0, none⟩)] 23)).alloc (.cells (#[.pointer (some ⟨R.rb, 0, none⟩)] ++ Builtin.zeroCells #[.pointer none] (cc - 1)) 23)) = W4 at *
      have b5 := b4.2.drew
      have hrr : RRow (W3.heap.size + 1) (.pointer (some ⟨R.rb, 0, none⟩)) W4.drew := by
        refine ⟨(#[Value.pointer (some ⟨R.rb, 0, none⟩)] ++ Builtin.zeroCells #[.pointer none] (cc - 1) : Array Value), b4.1, ?_⟩
        rw [Array.getElem?_append_left (by simp)]
        rfl
      refine ⟨tB, _, cc, R, la, lc, rfl, (b5.block _ (lt_of_block T3)).trans T3, hrr, (b5.block _ (lt_of_block V3)).trans V3, ⟨A3.below b5, Nat.le_trans B1.size h2.e, Nat.le_trans B1.size h2.p, Nat.le_trans B1.size h2.r, B3.trans (b5.mono B3.size)⟩, Nat.le_of_lt lt1, Nat.le_trans B3.size (Nat.le_succ _)⟩
    · go_wp2_with fail
      go_ret
      exact h.out
end Go.Proofs.Ytaonchdpnllhpaa
namespace Go.Proofs.Ytaonchdpnllhpaa
open Go.RowKit
/-- Where a record's log lies: in a row of its own, apart from the replica's. -/
def PLog (w0 : World) (lo : Option Nat) (W : World) (a : Option Addr) (c : Nat) (l : List Ent) : Prop := W.ownsRow w0.heap.size 56 2 (.slice a l.length c) l.length (cellsE l) ∧ ∀ q, (Value.slice a l.length c).ownBlock = some q → lo ≠ some q
def TownBox (w0 : World) (tb rr rc : Nat) (W : World) : Prop := W.heap[tb]? = some (.cells #[.int .i64 1, .slice (some ⟨rr, 0, none⟩) 1 rc, .slice (some ⟨w0.heap.size, 0, none⟩) 1 1, .slice none 0 0, .slice none 0 0, .int .i64 0] 50 (0, 0))
/-- The town: its box, its replica's row, what is written; the replica of one. -/
structure AL (w0 : World) (tb rr rc : Nat) (R : RC) (n : Nat) (la : Option Addr) (lc : Nat) (E : List Ent) (m : Nat) (sa : Option Addr) (ac : Nat) (xs : List Value) (Rs : List Rec17) (W : World) : Prop where
  t : TownBox w0 tb rr rc W
  r : RRow rr (.pointer (some ⟨R.rb, 0, none⟩)) W
  v : W.heap[w0.heap.size]? = some (.cells #[.slice sa m ac] 32 (0, 0))
  b : RB R (ptL 1 n) [0] la n lc E w0 W
  row : W.ownsRow w0.heap.size 85 5 (.slice sa m ac) m xs
  vals : RecVals (PLog w0 (Value.slice la n lc).ownBlock W) xs Rs
theorem AL.below {w0 : World} {tb rr rc n lc m ac : Nat} {R : RC} {la sa : Option Addr} {E : List Ent} {xs : List Value} {Rs : List Rec17} {W W' : World} (h : AL w0 tb rr rc R n la lc E m sa ac xs Rs W) (hb : Below W.heap.size W W') : AL w0 tb rr rc R n la lc E m sa ac xs Rs W' :=
  ⟨(hb.block _ (lt_of_block h.t)).trans h.t, h.r.of_block (hb.block _ h.r.lt), (hb.block _ (lt_of_block h.v)).trans h.v, h.b.below hb, row_below2 h.row hb, h.vals.mono fun _ _ _ hp => ⟨row_below2 hp.1 hb, hp.2⟩⟩
theorem rq_one18 (n : Nat) : rqC (ptL 1 n) [0] n = ((n + 1 : Nat) : Int) := by
  show min ((midN 1 ((List.replicate 1 0).set 0 (n + 1)) : Nat) : Int) ((n + 1 : Nat) : Int) = _
  rw [mid_first18 1 (n + 1) (.inl rfl) (by omega), if_pos rfl]
  omega
/-- What a replica does to itself leaves the rest of the town as it was. -/
theorem AL.replica {w0 : World} {tb rr rc n lc m ac n' lc' : Nat} {R : RC} {la sa la' : Option Addr} {E E' : List Ent} {xs : List Value} {Rs : List Rec17} {W W' : World} (h : AL w0 tb rr rc R n la lc E m sa ac xs Rs W) (ha : RA R (ptL 1 n') [0] la' n' lc' E' W') (hc : Chg W W' (fun k => k = R.pb ∨ (Value.slice la n lc).ownBlock = some k ∨ k = R.mb)) (hn : (Value.slice la' n' lc').ownBlock = (Value.slice la n lc).ownBlock ∨ ∃ g, (Value.slice la' n' lc').ownBlock = some g ∧ W.heap.size ≤ g) : AL w0 tb rr rc R n' la' lc' E' m sa ac xs Rs W' := by
  have hp := h.b.a.p
  have hk := h.b.a.k
  have hl := h.b.a.l
  unfold PtAt at hp
  have kb : (Value.slice (some ⟨R.mb, 0, none⟩) (ptL 1 n).n R.mc).ownBlock = some R.mb := rfl
  have box : ∀ {b : Nat} {cs : Array Value} {e : TypeId}, W.heap[b]? = some (.cells cs e (0, 0)) → 72 ≠ e → 56 ≠ e → 3 ≠ e → W'.heap[b]? = W.heap[b]? := fun {b cs e} hx e1 e2 e3 => by
    refine hc.block _ (lt_of_block hx) ?_
    rintro (q | q | q)
    · rw [q, hp] at hx
      injection hx with hx
      injection hx with _ hx
      exact e1 hx
    · exact row_apart18 hl hx e2 q
    · exact row_apart18 hk hx e3 (by rw [kb, q])
  refine ⟨(box h.t (by decide) (by decide) (by decide)).trans h.t, ?_, (box h.v (by decide) (by decide) (by decide)).trans h.v, h.b.chg ha hc, ?_, h.vals.mono fun a c l q => ⟨?_, fun g hg => ?_⟩⟩
  · obtain ⟨cs, r1, r2⟩ := h.r
    exact ⟨cs, (box r1 (by decide) (by decide) (by decide)).trans r1, r2⟩
  · refine row_chg18 h.row hc fun g hg hs => ?_
    rcases hs with e | e | e
    · exact row_apart18 h.row hp (by decide) (by rw [hg, e])
    · exact rows_apart18 h.row hl (by decide) g hg e
    · exact rows_apart18 h.row hk (by decide) g hg (by rw [kb, e])
  · refine row_chg18 q.1 hc fun g hg hs => ?_
    rcases hs with e | e | e
    · exact row_apart18 q.1 hp (by decide) (by rw [hg, e])
    · exact q.2 g hg e
    · exact rows_apart18 q.1 hk (by decide) g hg (by rw [kb, e])
  · rcases hn with e | ⟨g', e, hg'⟩
    · rw [e]; exact q.2 g hg
    · rw [e]
      have := (World.ownsRow.lt q.1 g hg).2
      intro q2
      injection q2 with q2
      omega
end Go.Proofs.Ytaonchdpnllhpaa
namespace Go.Proofs.Ytaonchdpnllhpaa
open Go.RowKit
theorem RecVals.one {P : Option Addr → Nat → List Ent → Prop} {xs : List Value} {R : List Rec17} (h : RecVals P xs R) : ∀ u ∈ xs, u.oneCell' = true := by
  intro u hu
  obtain ⟨i, hi, rfl⟩ := List.getElem_of_mem hu
  have hl := h.1
  have hj : i / 5 < R.length := by omega
  obtain ⟨h0, h1, h2, h3, a, c, h4, -⟩ := h.2 (i / 5) hj
  have key : ∀ v : Value, xs[i]? = some v → v.oneCell' = true → (xs[i]'hi).oneCell' = true := fun v hv h1 => by
    rw [List.getElem?_eq_getElem hi] at hv
    injection hv with hv
    rw [hv]; exact h1
  have hm : i % 5 < 5 := Nat.mod_lt _ (by decide)
  have hd := Nat.div_add_mod i 5
  rcases (show i % 5 = 0 ∨ i % 5 = 1 ∨ i % 5 = 2 ∨ i % 5 = 3 ∨ i % 5 = 4 by omega) with e | e | e | e | e
  · exact key _ (by rw [show i = i / 5 * 5 by omega]; exact h0) rfl
  · exact key _ (by rw [show i = i / 5 * 5 + 1 by omega]; exact h1) rfl
  · exact key _ (by rw [show i = i / 5 * 5 + 2 by omega]; exact h2) rfl
  · exact key _ (by rw [show i = i / 5 * 5 + 3 by omega]; exact h3) rfl
  · exact key _ (by rw [show i = i / 5 * 5 + 4 by omega]; exact h4) rfl
theorem AL.request {w0 : World} {tb rr rc n lc m ac : Nat} {R : RC} {la sa : Option Addr} {E : List Ent} {xs : List Value} {Rs : List Rec17} {W : World} (h : AL w0 tb rr rc R n la lc E m sa ac xs Rs W) (d : List UInt8) (hd : d.length ≤ 16384) (hn : n < 2048) : Calls Try.prog 8 #[.pointer (some ⟨R.rb, 0, none⟩), .string ⟨d.toArray⟩] W fun e W' => ∃ a2 ac2 d2 dc2, e = .returned (.tuple #[.int .i64 ((n + 1 : Nat) : Int), .agg #[.slice a2 2 ac2, .slice d2 0 dc2], .int .i64 0]) ∧ Hid (∃ la' lc' ys, AL w0 tb rr rc R (n + 1) la' lc' (E ++ [⟨0, d⟩]) m sa ac xs Rs W' ∧ W'.ownsRow w0.heap.size 85 5 (.slice a2 2 ac2) 2 ys ∧ RecVals (PLog w0 (Value.slice la' (n + 1) lc').ownBlock W') ys (recA n d) ∧ ∀ (b : Nat) (cs : Array Value), W.heap[b]? = some (Obj.cells cs 35 (0, 0)) → W'.heap[b]? = W.heap[b]?) := by
  refine (rrequest_any18 0 d W h.b.a (by show 1 ≤ 1; decide) (by show 1 ≤ 7; decide) (by show 0 < 1; decide) rfl (by decide) (by simp [Pt.leads, ptL]) hd hn).mono ?_
  rintro e W' ⟨la', lc', a, ac', d2, dc, a3, c3, rfl, hR⟩
  have hC := rq_one18 n
  unfold rqC at hC
  rw [hC] at hR ⊢
  have hN : comN (ptL 1 n).cm ((n + 1 : Nat) : Int) = 1 := if_pos (by show (n : Int) < _; omega)
  have hX : comX (ptL 1 n).cm ((n + 1 : Nat) : Int) = [.int .i64 3, .int .i64 0, .int .i64 0, .int .i64 ((n + 1 : Nat) : Int), .slice none 0 0] := if_pos (by show (n : Int) < _; omega)
  have hP : (ptL 1 n).rises ((n + 1 : Nat) : Int) = ptL 1 ((n + 1 : Nat) : Int) := by
    unfold Pt.rises ptL
    congr 1
    exact if_pos (by show (n : Int) < _; omega)
  rw [hN, hX, hP] at hR
  rw [hN]
  obtain ⟨hA, hCh, hS, h3, hq, hnew, -⟩ := hR.out
  refine ⟨a, ac', d2, dc, rfl, hid ⟨la', lc', _, h.replica hA hCh hnew, row_base18 hS h.b.b.size, ?_, fun b cs hx => ?_⟩⟩
  rotate_left
  · refine hCh.block _ (lt_of_block hx) ?_
    have hp := h.b.a.p
    unfold PtAt at hp
    rintro (q | q | q)
    · rw [q, hp] at hx
      injection hx with hx
      injection hx with _ hx
      exact absurd hx (by decide)
    · exact row_apart18 h.b.a.l hx (by decide) q
    · exact row_apart18 h.b.a.k hx (by decide) (by rw [q]; rfl)
  refine ⟨rfl, fun j hj => ?_⟩
  rcases j with _ | _ | j
  · exact ⟨rfl, rfl, rfl, rfl, a3, c3, rfl, row_base18 h3 h.b.b.size, hq⟩
  · exact ⟨rfl, rfl, rfl, rfl, none, 0, rfl, World.ownsRow_nil _ _ _ _, fun q hq => by cases hq⟩
  · simp [recA] at hj
    omega
/-- The town stays what it is when a box of work is written. -/
theorem AL.box {w0 : World} {tb rr rc n lc m ac X o : Nat} {R : RC} {la sa : Option Addr} {E : List Ent} {xs : List Value} {Rs : List Rec17} {W : World} {cs : Array Value} (h : AL w0 tb rr rc R n la lc E m sa ac xs Rs W) (hx : W.heap[X]? = some (.cells cs 35 (0, 0))) (hX : w0.heap.size ≤ X) (u : Value) : AL w0 tb rr rc R n la lc E m sa ac xs Rs (W.setCell ⟨X, o, none⟩ u) := by
  have box : ∀ {b : Nat} {ds : Array Value} {e : TypeId}, W.heap[b]? = some (.cells ds e (0, 0)) → 35 ≠ e → (W.setCell ⟨X, o, none⟩ u).heap[b]? = W.heap[b]? := fun {b ds e} hb he => heap_setCell_other _ _ _ _ fun q => by
    have q' : b = X := q
    rw [q', hx] at hb
    injection hb with hb
    injection hb with _ hb
    exact he hb
  obtain ⟨cr, r1, r2⟩ := h.r
  exact ⟨(box h.t (by decide)).trans h.t, ⟨cr, (box r1 (by decide)).trans r1, r2⟩, (box h.v (by decide)).trans h.v, ⟨h.b.a.other hx (by decide) (by decide) (by decide) (by decide) u, h.b.e, h.b.p, h.b.r, h.b.b.setCell hX u⟩, row_keep18 h.row (row_apart18 h.row hx (by decide)) u, h.vals.mono fun a c l q => ⟨row_keep18 q.1 (row_apart18 q.1 hx (by decide)) u, q.2⟩⟩
theorem AL.works {w0 : World} {tb rr rc n lc m ac ac2 dc2 b2 : Nat} {R : RC} {la sa a2 d2 : Option Addr} {E : List Ent} {xs ys : List Value} {Rs S : List Rec17} {W : World} (h : AL w0 tb rr rc R n la lc E m sa ac xs Rs W) (hs : W.ownsRow b2 85 5 (.slice a2 2 ac2) 2 ys) (hv : RecVals (PLog w0 (Value.slice la n lc).ownBlock W) ys S) (hm : m ≤ 90000) : Calls Try.prog 12 #[.pointer (some ⟨tb, 0, none⟩), .int .i64 0, .agg #[.slice a2 2 ac2, .slice d2 0 dc2], .agg #[.int .i64 0, .int .i64 0, .int .i64 0, .int .i64 0, .bool false]] W fun e W' => e = .returned (.bool true) ∧ Hid (∃ sa' ac', AL w0 tb rr rc R n la lc E (m + 2) sa' ac' (xs ++ ys) (Rs ++ S) W') := by
  refine (works1_18 0 0 0 0 W h.t h.v h.row (lies_row18 hs) hs.1 hv.one hm (by omega) h.b.b.size).mono ?_
  rintro e W' ⟨rfl, sa', ac', hrow, hv', hc, hnew⟩
  refine ⟨rfl, hid ⟨sa', ac', ?_⟩⟩
  have hw := h.v
  have hr := h.row
  have box : ∀ {b : Nat} {cs : Array Value} {e : TypeId}, W.heap[b]? = some (.cells cs e (0, 0)) → 32 ≠ e → 85 ≠ e → W'.heap[b]? = W.heap[b]? := fun {b cs e} hx e1 e2 => by
    refine hc.block _ (lt_of_block hx) ?_
    rintro (q | q)
    · rw [q, hw] at hx
      injection hx with hx
      injection hx with _ hx
      exact e1 hx
    · exact row_apart18 hr hx e2 q
  have rowE : ∀ {bs k sz : Nat} {e : TypeId} {v : Value} {l : List Value}, W.ownsRow bs e sz v k l → e ≠ 32 → e ≠ 85 → W'.ownsRow bs e sz v k l := fun {bs k sz e v l} hx e1 e2 => by
    refine row_chg18 hx hc fun g hg q => ?_
    rcases q with q | q
    · exact row_apart18 hx hw e1 (by rw [hg, q])
    · exact rows_apart18 hx hr e2 g hg q
  have ha := h.b.a
  have hp := ha.p
  unfold PtAt at hp
  have hA : RA R (ptL 1 n) [0] la n lc E W' := ⟨(box ha.b (by decide) (by decide)).trans ha.b, (box hp (by decide) (by decide)).trans hp, rowE ha.l (by decide) (by decide), rowE ha.k (by decide) (by decide), Nat.le_trans ha.z hc.size⟩
  have hB : Below w0.heap.size W W' := hc.below h.b.b.size fun j hj => by
    rcases hj with q | q
    · omega
    · exact (World.ownsRow.lt hr j q).1
  refine ⟨(box h.t (by decide) (by decide)).trans h.t, ?_, hv', ⟨hA, h.b.e, h.b.p, h.b.r, h.b.b.trans hB⟩, hrow, RecVals.app (h.vals.mono fun a c l q => ⟨rowE q.1 (by decide) (by decide), q.2⟩) (hv.mono fun a c l q => ⟨rowE q.1 (by decide) (by decide), q.2⟩)⟩
  obtain ⟨cs, r1, r2⟩ := h.r
  exact ⟨cs, (box r1 (by decide) (by decide)).trans r1, r2⟩
theorem AL.crash {w0 : World} {tb rr rc lc m ac : Nat} {R : RC} {la sa : Option Addr} {xs : List Value} {As : List (List UInt8)} {W : World} (h : AL w0 tb rr rc R As.length la lc (entA As) m sa ac xs (recsA 0 As) W) (hd : ∀ d ∈ As, d.length ≤ 16384) (hn : As.length ≤ 2048) (hrr : w0.heap.size ≤ rr) : Calls Try.prog 13 #[.pointer (some ⟨tb, 0, none⟩), .int .i64 0] W fun e W' => e = .returned (.bool true) ∧ Hid (∃ R' la' lc', AL w0 tb rr rc R' As.length la' lc' (entA As) m sa ac xs (recsA 0 As) W') := by
  refine (crash1_18 W h.t h.r h.v h.row h.vals hd hn).mono ?_
  rintro e W' ⟨rfl, R', la', lc', hA, e1, e2, e3, hr, hc⟩
  refine ⟨rfl, hid ⟨R', la', lc', ?_⟩⟩
  obtain ⟨cr, q1, q2⟩ := h.r
  have box : ∀ {b : Nat} {cs : Array Value} {e : TypeId}, W.heap[b]? = some (.cells cs e (0, 0)) → 23 ≠ e → W'.heap[b]? = W.heap[b]? := fun {b cs e} hx e1 => by
    refine hc.block _ (lt_of_block hx) fun q => ?_
    rw [q, q1] at hx
    injection hx with hx
    injection hx with _ hx
    exact e1 hx
  have rowE : ∀ {bs k sz : Nat} {e : TypeId} {v : Value} {l : List Value}, W.ownsRow bs e sz v k l → e ≠ 23 → W'.ownsRow bs e sz v k l := fun {bs k sz e v l} hx e1 =>
    row_chg18 hx hc fun g hg q => row_apart18 hx q1 e1 (by rw [hg, q])
  have hw := h.b.b.size
  have hB : Below w0.heap.size W W' := hc.below hw fun j hj => by rw [hj]; exact hrr
  refine ⟨(box h.t (by decide)).trans h.t, hr, (box h.v (by decide)).trans h.v, ⟨hA, Nat.le_trans hw e1, Nat.le_trans hw e2, Nat.le_trans hw e3, h.b.b.trans hB⟩, rowE h.row (by decide), h.vals.mono fun a c l q => ⟨rowE q.1 (by decide), fun g hg q3 => ?_⟩⟩
  have l1 := (World.ownsRow.lt q.1 g hg).2
  have l2 := (World.ownsRow.lt hA.l g q3).1
  omega
end Go.Proofs.Ytaonchdpnllhpaa
