/- Layer 17: the law's records. -/
import Derived.Test.YtmaecpmdikdclaaMH
namespace Go.Proofs.Ytmaecpmdikdclaa
open Go.RowKit
theorem elemN_rec : ElemN Try.prog 67 50 5 56 := by
  obtain ⟨i, hi, hz0, hz1, hz2⟩ := info_parts (show (Try.prog.info? 50).map (fun i => (i.zero, i.size, i.bytes)) = some (some (.agg #[.int .i64 0, .int .i64 0, .int .i64 0, .int .i64 0, .slice none 0 0]), 5, 56) by kernel_rfl)
  exact ⟨Try.underlying67, ⟨i, _, hi, hz0, hz1, hz2, rfl⟩, by decide⟩
/-- Records as cells, their logs being these slices. -/
def cellsR (R : List Rec17) (S : List Value) : List Value := (R.zip S).flatMap fun p => [.int .i64 p.1.kd, .int .i64 p.1.vw, .int .i64 p.1.nm, .int .i64 p.1.op, p.2]
theorem cellsR_len (R : List Rec17) (S : List Value) (h : S.length = R.length) : (cellsR R S).length = R.length * 5 := by
  induction R generalizing S with
  | nil => rfl
  | cons r R ih =>
    cases S with
    | nil => simp at h
    | cons s S =>
      have := ih S (by simpa using h)
      unfold cellsR at this ⊢
      rw [List.zip_cons_cons, List.flatMap_cons, List.length_append, this]
      simp only [List.length_cons, List.length_nil]
      omega
theorem cellsR_snoc (R : List Rec17) (S : List Value) (r : Rec17) (s : Value) (h : S.length = R.length) : cellsR (R ++ [r]) (S ++ [s]) = cellsR R S ++ [.int .i64 r.kd, .int .i64 r.vw, .int .i64 r.nm, .int .i64 r.op, s] := by
  unfold cellsR
  rw [List.zip_append h.symm, List.flatMap_append]
  rfl
theorem cellsR_get (R : List Rec17) (S : List Value) (h : S.length = R.length) (j : Nat) (hj : j < R.length) : (cellsR R S)[j * 5]? = some (.int .i64 R[j].kd) ∧ (cellsR R S)[j * 5 + 1]? = some (.int .i64 R[j].vw) ∧ (cellsR R S)[j * 5 + 2]? = some (.int .i64 R[j].nm) ∧ (cellsR R S)[j * 5 + 3]? = some (.int .i64 R[j].op) ∧ (cellsR R S)[j * 5 + 4]? = some (S[j]'(by omega)) := by
  induction R generalizing S j with
  | nil => simp at hj
  | cons r R ih =>
    cases S with
    | nil => simp at h
    | cons s S =>
      cases j with
      | zero => exact ⟨rfl, rfl, rfl, rfl, rfl⟩
      | succ j =>
        have := ih S (by simpa using h) j (by simpa using hj)
        unfold cellsR at this ⊢
        rw [List.zip_cons_cons, List.flatMap_cons, show (j + 1) * 5 = j * 5 + 5 by omega]
        simp only [List.cons_append, List.nil_append, List.getElem_cons_succ]
        exact this
/-- Records of the program's, their logs rows of their own. -/
def RowR (w : World) (B : Nat) (v : Value) (R : List Rec17) : Prop := ∃ S : List Value, ∃ h : S.length = R.length, w.ownsRow B 50 5 v R.length (cellsR R S) ∧ ∀ j (hj : j < R.length), LogAt w B (S[j]'(by omega)) R[j].log
theorem LogAt.keep {w w' : World} {B : Nat} {v : Value} {L : List Ent} (h : LogAt w B v L) (hk : ∀ (k : Nat) (cur : Array Value), w.heap[k]? = some (Obj.cells cur 109 (0, 0)) → w'.heap[k]? = w.heap[k]?) : LogAt w' B v L := by
  obtain ⟨hl, h⟩ := h
  refine ⟨hl, ?_⟩
  rcases h with h2 | ⟨g, cap, cur, rfl, hg, hh, r⟩
  · exact .inl h2
  · exact .inr ⟨g, cap, cur, rfl, hg, by rw [hk g cur hh]; exact hh, r⟩
theorem RowR.at_ {w : World} {B : Nat} {v : Value} {R : List Rec17} (h : RowR w B v R) (hs : ∀ r ∈ R, (∀ x ∈ r.log, x.d.length ≤ 9223372036854775807) ∧ r.log.length ≤ 9000000000000) : ∃ a c, v = .slice a R.length c ∧ RsAt17 w.cell? a R := by
  obtain ⟨S, hS, hrow, hlog⟩ := h
  obtain ⟨a, c, rfl, _, _, hr⟩ := row_form hrow
  refine ⟨a, c, rfl, ?_⟩
  rcases hr with ⟨rfl, h0, _⟩ | ⟨g, rfl, _, _, hc⟩
  · exact .inl (List.eq_nil_of_length_eq_zero h0)
  · refine .inr ⟨g, 0, rfl, fun j hj => ?_⟩
    obtain ⟨h0, h1, h2, h3, h4⟩ := cellsR_get R S hS j hj
    obtain ⟨la, lc, e, hE⟩ := (hlog j hj).form
    rw [e] at h4
    rw [Nat.zero_add]
    exact ⟨hc _ _ h0, hc _ _ h1, hc _ _ h2, hc _ _ h3, la, lc, hc _ _ h4, rfl, hE, (hs _ (List.getElem_mem hj)).1, (hs _ (List.getElem_mem hj)).2⟩
/-- A step of a row of records turns no log. -/
theorem rec_step {w w' : World} {B n : Nat} {v v' : Value} {xs : List Value} {o : Obj} (hrow : w.ownsRow B 50 5 v n xs) (hs : Step (w.alloc o) v w' v') : ∀ (k : Nat) (cur : Array Value), w.heap[k]? = some (Obj.cells cur 109 (0, 0)) → w'.heap[k]? = w.heap[k]? := fun k cur hk => by
  have hlt := lt_of_block hk
  rw [hs.1.block k (by simp; omega) (fun e => ?_), Below.heap_alloc _ _ _ hlt]
  rcases hrow.2 with ⟨rfl, _⟩ | ⟨g, cap, cur2, rfl, _, hh, _⟩
  · cases e
  · injection e with e
    rw [show g = k from e.symm, hk] at hh
    injection hh with hh
    injection hh with _ ht _
    exact absurd ht (by decide)
set_option maxRecDepth 100000 in
set_option maxHeartbeats 1000000 in
theorem recordsS_any (a : Option Addr) (n c : Nat) (R : List Rec17) (w : World) (hn : R.length = n) (hN : RsAt17 w.cell? a R) (hm : n ≤ 2513169434843) (hs : ∀ r ∈ R, r.log.length ≤ 5864062014805) : Calls Try.prog 30 #[.slice a n c] w fun e w' => ∃ v, e = .returned v ∧ RowR w' w.heap.size v R ∧ Below w.heap.size w w' := by
  have HN := hid hn
  have HZ := hid hN
  have HS0 := hid hs
  clear hn hN hs
  go_enter Try.func30, Try.ntmps30
  go_wp2_with fail
  go_loopw [3, 4] (fun v iv wr => ∃ k : Nat, iv = .int .i64 k ∧ k ≤ n ∧ Hid (RowR wr w.heap.size v (R.take k)) ∧ Hid (Below w.heap.size w wr)) (fun _ iv _ => n - (intOf iv).toNat)
  case atStart => exact ⟨0, rfl, Nat.zero_le _, hid ⟨[], by simp, by rw [List.take_zero]; exact World.ownsRow_nil _ _ _ _, fun j hj => by simp at hj⟩, hid (Below.refl _ _)⟩
  case round =>
    obtain ⟨k, rfl, hk, HR, HB⟩ := hrel
    by_cases hlt : k < n
    · have hkl : k < R.length := by rw [HN.out]; exact hlt
      obtain ⟨zb, zo, e1, y0, y1, y2, y3, la, lc, y4, hI⟩ := HZ.out.get hkl
      subst e1
      have z0 := below_keep HB.out _ _ y0
      have z1 := below_keep HB.out _ _ y1
      have z2 := below_keep HB.out _ _ y2
      have z3 := below_keep HB.out _ _ y3
      have z4 := below_keep HB.out _ _ y4
      have hC := recS_any R[k] la R[k].log.length lc wr rfl (hI.es.keep (below_keep HB.out)) (HS0.out _ (List.getElem_mem hkl))
      obtain ⟨S, hS, hrow, hlog⟩ := HR.out
      have hlk : (R.take k).length = k := by rw [List.length_take]; omega
      rw [hlk] at hrow
      obtain ⟨ra, rc, rfl, _, _, _⟩ := row_form hrow
      have HE : Hid (∀ w3 vl w6 v6, Below wr.heap.size wr w3 → LogAt w3 wr.heap.size vl R[k].log → w6.ownsRow w.heap.size 50 5 v6 (k + 1) (cellsR (R.take k) S ++ [.int .i64 R[k].kd, .int .i64 R[k].vw, .int .i64 R[k].nm, .int .i64 R[k].op, vl]) → (∃ o, Step (w3.alloc o) (.slice ra k rc) w6 v6) → RowR w6 w.heap.size v6 (R.take (k + 1)) ∧ Below w.heap.size w w6) := hid fun w3 vl w6 v6 h3 hl hr ⟨o, hs⟩ => by
        have hr3 := row_below2 hrow h3
        have key := rec_step hr3 hs
        have hsz := HB.out.size
        have e2 : R.take (k + 1) = R.take k ++ [R[k]] := by rw [List.take_add_one, List.getElem?_eq_getElem hkl]; rfl
        refine ⟨⟨S ++ [vl], by rw [e2, List.length_append, List.length_append, hS]; rfl, ?_, fun j hj => ?_⟩, ?_⟩
        · rw [e2, cellsR_snoc _ _ _ _ hS, List.length_append, hlk]
          exact hr
        · have hj2 : j < k + 1 := by rw [List.length_take] at hj; omega
          by_cases hjk : j < k
          · have := ((hlog j (by omega)).below h3).keep key
            simp only [e2]
            rw [List.getElem_append_left (by omega), List.getElem_append_left (by omega)]
            exact this
          · obtain rfl : j = k := by omega
            have hl2 : LogAt w3 w.heap.size vl R[j].log := ⟨row_lower4 hl.row hsz⟩
            have := hl2.keep key
            simp only [e2]
            rw [List.getElem_append_right (by omega), List.getElem_append_right (by omega)]
            simpa [hS, hlk] using this
        · exact ((HB.out.trans (h3.mono hsz)).alloc (by have := h3.size; omega) o).trans (hs.below (by have := h3.size; simp; omega) fun g e => (row_lt4 hrow g e).1)
      have HRW := hid fun W (h : Below wr.heap.size wr W) => row_below2 hrow h
      have hbs := HB.out.size
      clear HZ y0 y1 y2 y3 y4 hI hS hrow hlog hlk HR HS0
      generalize cellsR (R.take k) S = C1 at *
      generalize R[k].kd = kd at *
      generalize R[k].vw = vw at *
      generalize R[k].nm = nm at *
      generalize R[k].op = op at *
      generalize hL : R[k].log = L at *
      have hj0 : (0 : Int) ≤ (k : Int) := by omega
      have hj1 : (k : Int) < (n : Int) := by omega
      clear hL
      generalize L.length = ll at *
      go_wp2_with (first | (go_at_call 21; refine hC.mono ?_; clear hC; rintro e w3 ⟨v, rfl, hL3, hb3⟩; obtain ⟨va, vc, hv, _⟩ := hL3.form; subst hv; have hr3 := HRW.out w3 hb3; have hbs3 := hb3.size) | (at_builtin; refine wpList_appN _ rfl _ _ 67 rfl elemN_rec w.heap.size (.slice ra k rc) k C1 rfl (World.ownsRow.alloc hr3 _) _ rfl 1 [.int .i64 kd, .int .i64 vw, .int .i64 nm, .int .i64 op, .slice va L.length vc] (.inr ⟨⟨_, 0, none⟩, 1, rfl, cells_new4 _ [.int .i64 kd, .int .i64 vw, .int .i64 nm, .int .i64 op, .slice va L.length vc] 50 _ rfl⟩) rfl (by simp [Value.oneCell']) (by unfold maxLen; omega) (by omega) (by simp; omega) ?_; intro v' w6 hr6 hs6; have F := HE.out w3 _ w6 v' hb3 hL3 hr6 ⟨_, hs6⟩; clear hr6 hs6))
      exact ⟨⟨k + 1, by go_num, by omega, hid F.1, hid F.2⟩, by simp [intOf]; omega⟩
    · have e : R.take k = R := List.take_of_length_le (by rw [HN.out]; omega)
      have hR := HR.out
      rw [e] at hR
      go_wp2_with fail
      go_ret
      exact ⟨_, rfl, hR, HB.out⟩
end Go.Proofs.Ytmaecpmdikdclaa
