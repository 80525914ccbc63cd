/- shape's stack of blocks: drop; mayStand, step. -/
import Derived.Test.YtodagpmcmjleaaaSB
namespace Go.Proofs.Ytodagpmcmjleaaa
open Go.RowKit
theorem row_less {W : World} {base g cap n : Nat} {e : TypeId} {L : List Blk} {b : Blk} (h : W.ownsRow base e 3 (.slice (some ⟨g, 0, none⟩) (L ++ [b]).length cap) (L ++ [b]).length (cellsB (L ++ [b]))) (hn : n = L.length) : W.ownsRow base e 3 (.slice (some ⟨g, 0, none⟩) n cap) L.length (cellsB L) := by
  subst hn
  refine ⟨cellsB_len L, .inr ?_⟩
  rcases h.2 with ⟨h2, _⟩ | ⟨g', cap', cur, e1, hg, hh, h1, h2, h3, h4⟩
  · cases h2
  · cases e1
    refine ⟨g, cap, cur, rfl, hg, hh, by simp at h1; omega, h2, h3, ?_⟩
    rw [cellsB_snoc, List.length_append, List.length_singleton, Nat.add_mul, Nat.one_mul] at h4
    have := congrArg (List.take (L.length * 3)) h4
    rw [List.take_take, Nat.min_eq_left (by omega), List.take_append_of_le_length (by rw [cellsB_len]; exact Nat.le_refl _)] at this
    exact this.trans (List.take_of_length_le (by rw [cellsB_len]; exact Nat.le_refl _))
theorem Stk.dropped {p g cap n : Nat} {L : List Blk} {b : Blk} {W : World} (h : Stk (p + 1) p (L ++ [b]) (some ⟨g, 0, none⟩) cap W) (hn : n = L.length) : StkEnd p L W (.returned (.tuple #[])) (W.setCell ⟨p, 0, none⟩ (.slice (some ⟨g, 0, none⟩) n cap)).drew := by
  have hr := row_less h.row hn
  refine ⟨rfl, ⟨some ⟨g, 0, none⟩, cap, ⟨?_, ?_⟩⟩, ((Below.refl p W).setCell (p := ⟨p, 0, none⟩) (Nat.le_refl _) _).drew, Mv.set h.box (.inl rfl)⟩
  · rw [hn]; exact one_set h.box
  · rw [hn] at hr ⊢; exact row_other6 hr h.box (by decide)
set_option maxRecDepth 100000 in
set_option maxHeartbeats 1000000 in
theorem drop_any {p : Nat} {L : List Blk} {b : Blk} {a : Option Addr} {cap : Nat} (W : World) (h : Stk (p + 1) p (L ++ [b]) a cap W) (hl : L.length ≤ 1000000) : Calls Try.prog 53 #[.pointer (some ⟨p, 0, none⟩)] W (StkEnd p L W) := by
  have hx := h.box
  obtain ⟨g, rfl, hg1, hg2, hc, _⟩ := h.at (by simp)
  rw [List.length_append, List.length_singleton] at hx hc
  obtain ⟨p0, z0⟩ := one_cell hx
  have hlt := blk_lt h.box
  obtain ⟨n, hn⟩ : ∃ n, n = L.length := ⟨_, rfl⟩
  rw [← hn] at hx p0 hc hl
  have hw : IntKind.i64.wrap (n : Int) = (n : Int) := by rw [IntKind.wrap_i64]; omega
  have hcc : (n : Int) ≤ (cap : Int) := by omega
  have HN := hid6 hn
  have HS := hid6 h
  clear hn h
  go_enter Try.func53, Try.ntmps53
  go_wp2_with fail
  go_region_law fail
  all_goals
    go_end0
    exact HS.out.dropped HN.out
/-- May n stand where these blocks are open? -/
def standS (n : Int) (L : List Blk) : Bool :=
  if n = 48 ∨ n = 51 then decide (L.length < 8)
  else if n = 49 then (match L.getLast? with | none => false | some b => !b.l && decide (b.o = -1))
  else if n = 50 then decide (0 < L.length)
  else if n = 52 then (firstIx L Blk.l L.length).isSome
  else true
/-- What n at at does to them. -/
def stepS (n at' : Int) (L : List Blk) : List Blk :=
  if n = 48 ∨ n = 51 then L ++ [⟨at', -1, decide (n = 51)⟩]
  else if n = 49 then (match L.getLast? with | none => L | some b => L.dropLast ++ [⟨b.s, at', b.l⟩])
  else if n = 50 then L.dropLast
  else L
theorem first_snoc (M : List Blk) (b : Blk) : firstIx (M ++ [b]) (fun _ => true) (M ++ [b]).length = some M.length := by
  rw [List.length_append, List.length_singleton, firstIx]
  simp
theorem Stk.word {base p : Nat} {L : List Blk} {a : Option Addr} {cap : Nat} {W : World} (h : Stk base p L a cap W) : ∃ g, (0 < L.length → a = some ⟨g, 0, none⟩) := by
  rcases Nat.eq_zero_or_pos L.length with h0 | h0
  · exact ⟨0, fun h1 => by omega⟩
  · obtain ⟨g, e, _⟩ := h.at h0
    exact ⟨g, fun _ => e⟩
set_option maxRecDepth 100000 in
set_option maxHeartbeats 1000000 in
theorem may_any {p : Nat} {L : List Blk} {a : Option Addr} {cap : Nat} (n : Int) (W : World) (h : Stk (p + 1) p L a cap W) (hl : L.length ≤ 1000000) (r : Bool) (HR : Hid (standS n L = r)) : Calls Try.prog 41 #[.int .i64 n, .pointer (some ⟨p, 0, none⟩)] W fun e w' => e = .returned (.bool r) ∧ Below W.heap.size W w' := by
  have hS := fun w => size6_any (base := p + 1) (p := p) (L := L) (a := a) (cap := cap) w
  have hS := hS _ h
  obtain ⟨g, hg⟩ := h.word
  have HR2 := HR.out
  clear HR
  by_cases n1 : n = 48
  · subst n1
    have HE : Hid (decide (L.length < 8) = r) := hid6 (by rw [← HR2]; simp [standS])
    generalize L.length = k at hS HE hl
    clear HR2 h hg
    go_enter Try.func41, Try.ntmps41
    go_wp2_with (first | (go_at_call 43; refine hS.mono ?_; rintro e w2 ⟨rfl, rfl⟩) | fail)
    go_ret
    exact ⟨by rw [← HE.out]; congr 2; simp; omega, Below.refl _ _⟩
  by_cases n2 : n = 51
  · subst n2
    have HE : Hid (decide (L.length < 8) = r) := hid6 (by rw [← HR2]; simp [standS])
    generalize L.length = k at hS HE hl
    clear HR2 h hg
    go_enter Try.func41, Try.ntmps41
    go_wp2_with (first | (go_at_call 43; refine hS.mono ?_; rintro e w2 ⟨rfl, rfl⟩) | fail)
    go_ret
    exact ⟨by rw [← HE.out]; congr 2; simp; omega, Below.refl _ _⟩
  by_cases n3 : n = 50
  · subst n3
    have HE : Hid (decide (0 < L.length) = r) := hid6 (by rw [← HR2]; simp [standS])
    generalize L.length = k at hS HE hl
    clear HR2 h hg
    go_enter Try.func41, Try.ntmps41
    go_wp2_with (first | (go_at_call 43; refine hS.mono ?_; rintro e w2 ⟨rfl, rfl⟩) | fail)
    go_ret
    exact ⟨by rw [← HE.out]; first | rfl | (congr 2; simp), Below.refl _ _⟩
  by_cases n4 : n = 52
  · subst n4
    have hI := inner_any W h hg hl _ (hid6 rfl)
    have HE : Hid ((firstIx L Blk.l L.length).isSome = r) := hid6 (by rw [← HR2]; simp [standS])
    generalize firstIx L Blk.l L.length = k at hI HE
    clear HR2 h hg hS
    cases k with
    | none =>
      simp only [ptrIx] at hI
      go_enter Try.func41, Try.ntmps41
      go_wp2_with (first | (go_at_call 29; refine hI.mono ?_; rintro e w2 ⟨rfl, hb2⟩) | fail)
      go_ret
      exact ⟨by rw [← HE.out]; rfl, hb2⟩
    | some k =>
      simp only [ptrIx] at hI
      go_enter Try.func41, Try.ntmps41
      go_wp2_with (first | (go_at_call 29; refine hI.mono ?_; rintro e w2 ⟨rfl, hb2⟩) | fail)
      go_ret
      exact ⟨by rw [← HE.out]; rfl, hb2⟩
  by_cases n5 : n = 49
  · subst n5
    rcases List.eq_nil_or_concat L with rfl | ⟨M, b, rfl⟩
    · have hT := top_any W h hg hl none (hid6 rfl)
      have HE : Hid (false = r) := hid6 (by rw [← HR2]; rfl)
      simp only [ptrIx] at hT
      clear HR2 h hg hS
      go_enter Try.func41, Try.ntmps41
      go_wp2_with (first | (go_at_call 28; refine hT.mono ?_; rintro e w2 ⟨rfl, hb2⟩) | fail)
      go_ret
      exact ⟨by rw [← HE.out]; rfl, hb2⟩
    · rw [List.concat_eq_append] at h hg hl HR2
      have hT := top_any W h hg hl (some M.length) (hid6 (first_snoc M b))
      have HE : Hid ((!b.l && decide (b.o = -1)) = r) := hid6 (by rw [← HR2]; simp [standS])
      have hat : ∀ wr, Below W.heap.size W wr → wr.cell? ⟨g, M.length * 3 + 1, none⟩ = some (.int .i64 b.o) ∧ wr.cell? ⟨g, M.length * 3 + 2, none⟩ = some (.bool b.l) := fun wr hb => by
        obtain ⟨g', e, _, _, _, hc⟩ := (h.keep hb).at (by simp)
        rw [hg (by simp)] at e
        cases e
        have := hc M.length (by simp)
        simpa using this.2
      simp only [ptrIx] at hT
      generalize M.length = k at hT hat
      obtain ⟨bs, bo, bl⟩ := b
      simp only at hat HE
      clear HR2 h hg hS hl
      cases bl with
      | true =>
        go_enter Try.func41, Try.ntmps41
        go_wp2_with (first | (go_at_call 28; refine hT.mono ?_; rintro e w2 ⟨rfl, hb2⟩; obtain ⟨d1, d2⟩ := hat _ hb2) | fail)
        go_ret
        exact ⟨by rw [← HE.out]; simp, hb2⟩
      | false =>
        go_enter Try.func41, Try.ntmps41
        go_wp2_with (first | (go_at_call 28; refine hT.mono ?_; rintro e w2 ⟨rfl, hb2⟩; obtain ⟨d1, d2⟩ := hat _ hb2) | fail)
        go_ret
        exact ⟨by rw [← HE.out]; by_cases hbo : bo = -1 <;> simp [hbo], hb2⟩
  · have HE : Hid (true = r) := hid6 (by rw [← HR2]; simp [standS, n1, n2, n3, n4, n5])
    clear HR2 h hg hS
    go_enter Try.func41, Try.ntmps41
    go_wp2_with fail
    go_ret
    exact ⟨by rw [← HE.out]; rfl, Below.refl _ _⟩
/-- The top's else is written down. -/
theorem Stk.elsed {p g cap k : Nat} {M : List Blk} {b : Blk} {x : Int} {W0 W : World} (h : Stk (p + 1) p (M ++ [b]) (some ⟨g, 0, none⟩) cap W) (hk : k = M.length) (hb : Below W0.heap.size W0 W) (hp : p < W0.heap.size) : StkEnd p (M ++ [⟨b.s, x, b.l⟩]) W0 (.returned (.tuple #[])) (W.setCell ⟨g, k * 3 + 1, none⟩ (.int .i64 x)) := by
  subst hk
  have hlen : (M ++ [(⟨b.s, x, b.l⟩ : Blk)]).length = (M ++ [b]).length := by simp
  have hst := h.row.stored (M.length * 3 + 1) (.int .i64 x)
  have hg := (h.row.lt g rfl).1
  obtain ⟨cur, hcur⟩ : ∃ cur, W.heap[g]? = some (.cells cur 57 (0, 0)) := by
    rcases h.row.2 with ⟨h2, _⟩ | ⟨g', cap', cur, e1, _, hh, _⟩
    · cases h2
    · cases e1
      exact ⟨cur, hh⟩
  refine ⟨rfl, ⟨some ⟨g, 0, none⟩, cap, ⟨?_, ?_⟩⟩, (hb.mono (Nat.le_of_lt hp)).setCell (p := ⟨g, M.length * 3 + 1, none⟩) (by show p ≤ g; omega) _, (Mv.below hb).trans (Mv.set hcur (.inr rfl))⟩
  · rw [hlen, Below.heap_setCell _ _ _ _ (by show p ≠ g; omega)]
    exact h.box
  · rw [hlen]
    have e : (cellsB (M ++ [b])).set (M.length * 3 + 1) (.int .i64 x) = cellsB (M ++ [(⟨b.s, x, b.l⟩ : Blk)]) := by
      rw [cellsB_snoc, cellsB_snoc, ← cellsB_len M, List.set_append_right _ _ (by omega), Nat.add_sub_cancel_left]
      rfl
    rw [← e]
    exact hst.1
set_option maxRecDepth 100000 in
set_option maxHeartbeats 1000000 in
theorem step_any {p : Nat} {L : List Blk} {a : Option Addr} {cap : Nat} (n x : Int) (W : World) (h : Stk (p + 1) p L a cap W) (hl : L.length ≤ 1000) (hs : standS n L = true) : Calls Try.prog 42 #[.int .i64 n, .int .i64 x, .pointer (some ⟨p, 0, none⟩)] W (StkEnd p (stepS n x L) W) := by
  by_cases n1 : n = 48
  · subst n1
    have hP := push_any ⟨x, -1, false⟩ W h (by omega)
    have HE : Hid (stepS 48 x L = L ++ [⟨x, -1, false⟩]) := hid6 (by simp [stepS])
    simp only [Blk.v] at hP
    clear hs h
    go_enter Try.func42, Try.ntmps42
    go_wp2_with (first | (go_at_call 52; refine hP.mono ?_; rintro e w2 hE; obtain ⟨rfl, hE2⟩ := hE) | fail)
    go_end0
    rw [HE.out]
    exact ⟨rfl, hE2⟩
  by_cases n2 : n = 51
  · subst n2
    have hP := push_any ⟨x, -1, true⟩ W h (by omega)
    have HE : Hid (stepS 51 x L = L ++ [⟨x, -1, true⟩]) := hid6 (by simp [stepS])
    simp only [Blk.v] at hP
    clear hs h
    go_enter Try.func42, Try.ntmps42
    go_wp2_with (first | (go_at_call 52; refine hP.mono ?_; rintro e w2 hE; obtain ⟨rfl, hE2⟩ := hE) | fail)
    go_end0
    rw [HE.out]
    exact ⟨rfl, hE2⟩
  by_cases n3 : n = 50
  · subst n3
    rcases List.eq_nil_or_concat L with rfl | ⟨M, b, rfl⟩
    · simp [standS] at hs
    rw [List.concat_eq_append] at h hl ⊢
    have hP := drop_any W h (by simp at hl; omega)
    have HE : Hid (stepS 50 x (M ++ [b]) = M) := hid6 (by simp [stepS])
    clear hs h
    go_enter Try.func42, Try.ntmps42
    go_wp2_with (first | (go_at_call 53; refine hP.mono ?_; rintro e w2 hE; obtain ⟨rfl, hE2⟩ := hE) | fail)
    go_end0
    rw [HE.out]
    exact ⟨rfl, hE2⟩
  by_cases n5 : n = 49
  · subst n5
    rcases List.eq_nil_or_concat L with rfl | ⟨M, b, rfl⟩
    · simp [standS] at hs
    rw [List.concat_eq_append] at h hl ⊢
    obtain ⟨g, rfl, _⟩ := h.at (by simp)
    have hT := top_any W h (fun _ => rfl) (by omega) (some M.length) (hid6 (first_snoc M b))
    have HE : Hid (stepS 49 x (M ++ [b]) = M ++ [⟨b.s, x, b.l⟩]) := hid6 (by simp [stepS])
    have hat : ∀ wr, Below W.heap.size W wr → wr.cell? ⟨g, M.length * 3 + 1, none⟩ = some (.int .i64 b.o) ∧ wr.frozen? ⟨g, M.length * 3 + 1, none⟩ = false := fun wr hb => by
      obtain ⟨g', e, _, _, _, hc⟩ := (h.keep hb).at (by simp)
      cases e
      have := hc M.length (by simp)
      exact ⟨by simpa using this.2.1, (h.keep hb).row.frozenAt _⟩
    simp only [ptrIx] at hT
    have HS := hid6 h
    obtain ⟨k, hk⟩ : ∃ k, k = M.length := ⟨_, rfl⟩
    rw [← hk] at hT hat
    have HK := hid6 hk
    clear hs h hk
    go_enter Try.func42, Try.ntmps42
    go_wp2_with (first | (go_at_call 28; refine hT.mono ?_; rintro e w2 ⟨rfl, hb2⟩; obtain ⟨d1, d2⟩ := hat _ hb2) | fail)
    go_end0
    rw [HE.out]
    exact (HS.out.keep hb2).elsed HK.out hb2 (blk_lt HS.out.box)
  · have HE : Hid (stepS n x L = L) := hid6 (by simp [stepS, n1, n2, n3, n5])
    have HS := hid6 h
    clear hs h
    go_enter Try.func42, Try.ntmps42
    go_wp2_with fail
    go_end0
    rw [HE.out]
    exact ⟨rfl, ⟨_, _, HS.out⟩, Below.refl _ _, Mv.refl _⟩
end Go.Proofs.Ytodagpmcmjleaaa
