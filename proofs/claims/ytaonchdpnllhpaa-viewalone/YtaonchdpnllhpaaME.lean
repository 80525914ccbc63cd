/- Layer 17: message.Fold: what a state does. -/
import Derived.Test.YtaonchdpnllhpaaMD
import Derived.Test.YtaonchdpnllhpaaAN
import Derived.Test.YtaonchdpnllhpaaSC
import Derived.Test.YtaonchdpnllhpaaMQ
import Derived.Test.YtaonchdpnllhpaaShelfc
namespace Go.Proofs.Ytaonchdpnllhpaa
open Go.RowKit
theorem sclone_any (s : List UInt8) (w : World) (hs : s.length ≤ 281474976710656) : Calls Try.prog 23 #[.string ⟨s.toArray⟩] w fun e w' => e = .returned (.string ⟨s.toArray⟩) ∧ Below w.heap.size w w' := by
  have hc := hid (Try.stringslite_Clone ⟨s.toArray⟩ w (by show s.toArray.size ≤ _; simpa using hs))
  go_enter Try.func23, Try.ntmps23
  go_wp2_with (go_at_call 37; refine hc.out.mono ?_; clear hc; rintro e w' ⟨rfl, hb⟩)
  go_ret
  exact ⟨rfl, hb⟩
/-- Entries as cells. -/
def cellsE (L : List Ent) : List Value := L.flatMap fun x => [.int .i64 x.v, .string ⟨x.d.toArray⟩]
theorem cellsE_len (L : List Ent) : (cellsE L).length = L.length * 2 := by
  induction L with
  | nil => rfl
  | cons x r ih => unfold cellsE at ih ⊢; rw [List.flatMap_cons, List.length_append, ih]; simp only [List.length_cons, List.length_nil]; omega
theorem cellsE_app (L M : List Ent) : cellsE (L ++ M) = cellsE L ++ cellsE M := List.flatMap_append
theorem cellsE_one (x : Ent) : cellsE [x] = [.int .i64 x.v, .string ⟨x.d.toArray⟩] := rfl
theorem cellsE_take (L : List Ent) (k : Nat) : cellsE (L.take k) = (cellsE L).take (k * 2) := by
  induction L generalizing k with
  | nil => simp [cellsE]
  | cons x r ih =>
    cases k with
    | zero => simp [cellsE]
    | succ k =>
      have := ih k
      unfold cellsE at this ⊢
      rw [List.take_succ_cons, List.flatMap_cons, List.flatMap_cons, this, show (k + 1) * 2 = k * 2 + 1 + 1 by omega]
      rfl
theorem cellsE_get (L : List Ent) (j : Nat) (h : j < L.length) : (cellsE L)[j * 2]? = some (.int .i64 L[j].v) ∧ (cellsE L)[j * 2 + 1]? = some (.string ⟨L[j].d.toArray⟩) := by
  induction L generalizing j with
  | nil => simp at h
  | cons x r ih =>
    cases j with
    | zero => exact ⟨rfl, rfl⟩
    | succ j =>
      have := ih j (by simpa using h)
      unfold cellsE at this ⊢
      rw [List.flatMap_cons, show (j + 1) * 2 = j * 2 + 2 by omega]
      simp only [List.cons_append, List.nil_append, List.getElem_cons_succ]
      exact this
/-- An owned row of entries, as entries that lie there. -/
theorem es_of_row {w : World} {base n : Nat} {e : TypeId} {v : Value} {L : List Ent} (h : w.ownsRow base e 2 v n (cellsE L)) : n = L.length ∧ ∃ a c, v = .slice a n c ∧ EsAt w.cell? a L := by
  have hl := h.1
  rw [cellsE_len] at hl
  obtain ⟨a, c, rfl, _, _, hr⟩ := row_form h
  refine ⟨by omega, a, c, rfl, ?_⟩
  rcases hr with ⟨rfl, rfl, rfl⟩ | ⟨g, rfl, _, _, hc⟩
  · exact .inl (List.eq_nil_of_length_eq_zero (by omega))
  · exact .inr ⟨g, 0, rfl, fun j hj => by
      obtain ⟨h1, h2⟩ := cellsE_get L j hj
      rw [Nat.zero_add]
      exact ⟨hc _ _ h1, hc _ _ h2⟩⟩
/-- A row that is cut. -/
theorem row_cut {w : World} {base n size : Nat} {e : TypeId} {a : Option Addr} {c : Nat} {xs : List Value} (h : w.ownsRow base e size (.slice a n c) n xs) (k : Nat) (hk : k ≤ n) : w.ownsRow base e size (.slice a k c) k (xs.take (k * size)) := by
  have hl := h.1
  refine ⟨by rw [List.length_take, hl]; exact Nat.min_eq_left (Nat.mul_le_mul_right _ hk), ?_⟩
  rcases h.2 with ⟨e1, e2⟩ | ⟨g, cap, cur, e1, hg, hh, hnc, hcm, hcs, ht⟩
  · injection e1 with e1 e2 e3
    subst e1 e2 e3
    obtain rfl : k = 0 := by omega
    exact .inl ⟨rfl, rfl⟩
  · injection e1 with e1 e2 e3
    subst e1 e3
    refine .inr ⟨g, c, cur, rfl, hg, hh, by omega, hcm, hcs, ?_⟩
    rw [← ht, List.take_take, Nat.min_eq_left (Nat.mul_le_mul_right _ hk)]
/-- What records tell. -/
structure St17 where
  vw : Int
  nm : Int
  cm : Int
  log : List Ent
  deriving DecidableEq
def folV (s : St17) (vw nm : Int) : Option St17 := if vw < s.vw ∨ nm > vw then none else some ⟨vw, nm, s.cm, s.log⟩
def folL (s : St17) (op : Nat) (L : List Ent) : Option St17 := if op > s.log.length ∨ op + L.length > 2048 then none else some ⟨s.vw, s.nm, s.cm, s.log.take op ++ L⟩
def folC (s : St17) (op : Int) : Option St17 := if op > s.log.length ∨ op < s.cm then none else some ⟨s.vw, s.nm, op, s.log⟩
def fol (s : St17) (r : Rec17) : Option St17 := if r.ok = false then none else if r.kd = 1 then folV s r.vw r.nm else if r.kd = 2 then folL s r.op.toNat r.log else folC s r.op
def foldS : St17 → List Rec17 → Option St17
  | s, [] => some s
  | s, r :: l => match fol s r with | none => none | some t => foldS t l
/-- A state in its box. -/
structure SAt (w : World) (base b : Nat) (s : St17) (v : Value) : Prop where
  box : w.heap[b]? = some (.cells #[.int .i64 s.vw, .int .i64 s.nm, .int .i64 s.cm, v] 29 (0, 0))
  row : w.ownsRow base 56 2 v s.log.length (cellsE s.log)
theorem SAt.own_ne {w : World} {base b : Nat} {s : St17} {v : Value} (h : SAt w base b s v) : v.ownBlock ≠ some b := fun e => by
  rcases h.row.2 with ⟨rfl, _⟩ | ⟨g, cap, cur, rfl, _, hh, _⟩
  · cases e
  · injection e with e
    have hb := h.box
    rw [← (show g = b from e), hh] at hb
    injection hb with hb
    injection hb with _ ht _
    exact absurd ht (by decide)
theorem SAt.below {w w' : World} {base b : Nat} {s : St17} {v : Value} (h : SAt w base b s v) (hb : Below w.heap.size w w') : SAt w' base b s v := ⟨(hb.block _ (lt_of_block h.box)).trans h.box, row_below2 h.row hb⟩
theorem SAt.c {w : World} {base b : Nat} {s : St17} {v : Value} (h : SAt w base b s v) : w.cell? ⟨b, 0, none⟩ = some (.int .i64 s.vw) ∧ w.cell? ⟨b, 1, none⟩ = some (.int .i64 s.nm) ∧ w.cell? ⟨b, 2, none⟩ = some (.int .i64 s.cm) ∧ w.cell? ⟨b, 3, none⟩ = some v ∧ ∀ k, w.frozen? ⟨b, k, none⟩ = false :=
  ⟨by rw [Lib.cell_of_heap h.box]; rfl, by rw [Lib.cell_of_heap h.box]; rfl, by rw [Lib.cell_of_heap h.box]; rfl, by rw [Lib.cell_of_heap h.box]; rfl, fun k => Lib.frozen_of_heap h.box k⟩
/-- What turns, where a state in box b turns whose row is v's: nothing else that was there. -/
def STurn (b : Nat) (v : Value) (k : Nat) : Prop := k = b ∨ v.ownBlock = some k
def SStep (b : Nat) (w : World) (v : Value) (w' : World) (v' : Value) : Prop := Chg w w' (STurn b v) ∧ (v'.ownBlock = v.ownBlock ∨ ∃ g, v'.ownBlock = some g ∧ w.heap.size ≤ g)
theorem SStep.refl (b : Nat) (w : World) (v : Value) : SStep b w v w v := ⟨Chg.refl _ _, .inl rfl⟩
theorem SStep.trans {b : Nat} {a1 a2 a3 : World} {u v x : Value} (s : SStep b a1 u a2 v) (t : SStep b a2 v a3 x) : SStep b a1 u a3 x := by
  refine ⟨s.1.trans t.1 fun i hi h => ?_, ?_⟩
  · rcases h with h | h
    · exact .inl h
    · rcases s.2 with e | ⟨g, e, hg⟩
      · exact .inr (e ▸ h)
      · rw [e] at h; injection h with h; omega
  · rcases t.2 with e | ⟨g, e, hg⟩
    · rw [e]; exact s.2
    · exact .inr ⟨g, e, Nat.le_trans s.1.size hg⟩
theorem SStep.below {b : Nat} {w w' : World} {v : Value} (hb : Below w.heap.size w w') : SStep b w v w' v := ⟨Chg.of_below hb, .inl rfl⟩
theorem SAt.set_cm {w : World} {base b : Nat} {s : St17} {v : Value} (h : SAt w base b s v) (x : Int) : SAt (w.setCell ⟨b, 2, none⟩ (.int .i64 x)) base b ⟨s.vw, s.nm, x, s.log⟩ v ∧ SStep b w v (w.setCell ⟨b, 2, none⟩ (.int .i64 x)) v := by
  refine ⟨⟨by rw [heap_setCell_same _ _ _ _ _ _ h.box]; rfl, row_chg4 h.row (Chg.setCell w ⟨b, 2, none⟩ _) fun g e e2 => h.own_ne (by rw [e]; exact congrArg some e2)⟩, (Chg.setCell w ⟨b, 2, none⟩ _).mono fun _ _ e => .inl e, .inl rfl⟩
theorem SAt.set_vn {w : World} {base b : Nat} {s : St17} {v : Value} (h : SAt w base b s v) (x y : Int) : SAt ((w.setCell ⟨b, 0, none⟩ (.int .i64 x)).setCell ⟨b, 1, none⟩ (.int .i64 y)) base b ⟨x, y, s.cm, s.log⟩ v ∧ SStep b w v ((w.setCell ⟨b, 0, none⟩ (.int .i64 x)).setCell ⟨b, 1, none⟩ (.int .i64 y)) v := by
  have k := (Chg.setCell w ⟨b, 0, none⟩ (.int .i64 x)).trans (Chg.setCell _ ⟨b, 1, none⟩ (.int .i64 y)) fun _ _ e => e
  refine ⟨⟨by rw [heap_setCell_same _ _ _ _ _ _ (heap_setCell_same _ _ _ _ _ _ h.box)]; rfl, row_chg4 h.row k fun g e e2 => h.own_ne (by rw [e]; exact congrArg some e2)⟩, k.mono fun _ _ e => .inl e, .inl rfl⟩
theorem SAt.set_log {w : World} {base b : Nat} {s : St17} {v u : Value} {L : List Ent} (h : SAt w base b s v) (hu : w.ownsRow base 56 2 u L.length (cellsE L)) (hub : u.ownBlock ≠ some b) : SAt (w.setCell ⟨b, 3, none⟩ u) base b ⟨s.vw, s.nm, s.cm, L⟩ u :=
  ⟨by rw [heap_setCell_same _ _ _ _ _ _ h.box]; rfl, row_chg4 hu (Chg.setCell w ⟨b, 3, none⟩ _) fun g e e2 => hub (by rw [e]; exact congrArg some e2)⟩
/-- How a call on a state ends: no, and the state is as it was or no one asks; or yes. -/
def FolEnd (b base : Nat) (o : Option St17) (w : World) (v : Value) (e : Ending) (w' : World) : Prop := (o = none ∧ e = .returned (.bool false) ∧ ∃ v', SStep b w v w' v') ∨ ∃ t v', o = some t ∧ e = .returned (.bool true) ∧ SAt w' base b t v' ∧ SStep b w v w' v'
set_option maxRecDepth 100000 in
set_option maxHeartbeats 400000 in
theorem commit_any17 (b base : Nat) (s : St17) (v : Value) (op : Int) (w : World) (H : SAt w base b s v) : Calls Try.prog 63 #[.pointer (some ⟨b, 0, none⟩), .int .i64 op] w (FolEnd b base (folC s op) w v) := by
  obtain ⟨a, c, rfl, _, _, _⟩ := row_form H.row
  obtain ⟨c0, c1, c2, c3, fr⟩ := H.c
  have f2 := fr 2
  have hlt := lt_of_block H.box
  have HY := hid (H.set_cm op)
  by_cases h1 : op > s.log.length
  · have HE : Hid (folC s op = none) := hid (by unfold folC; rw [if_pos (.inl h1)])
    generalize s.log.length = n at *
    clear H HY
    go_enter Try.func63, Try.ntmps63
    go_wp2_with fail
    go_ret
    exact .inl ⟨HE.out, rfl, _, SStep.refl _ _ _⟩
  · by_cases h2 : op < s.cm
    · have HE : Hid (folC s op = none) := hid (by unfold folC; rw [if_pos (.inr h2)])
      generalize s.log.length = n at *
      clear H HY
      go_enter Try.func63, Try.ntmps63
      go_wp2_with fail
      go_ret
      exact .inl ⟨HE.out, rfl, _, SStep.refl _ _ _⟩
    · have HE : Hid (folC s op = some ⟨s.vw, s.nm, op, s.log⟩) := hid (by unfold folC; rw [if_neg (by omega)])
      generalize s.log.length = n at *
      clear H
      go_enter Try.func63, Try.ntmps63
      go_wp2_with fail
      go_ret
      exact .inr ⟨_, _, HE.out, rfl, HY.out.1, HY.out.2⟩
set_option maxRecDepth 100000 in
set_option maxHeartbeats 400000 in
theorem rise_any17 (b base : Nat) (s : St17) (v : Value) (vw nm : Int) (w : World) (H : SAt w base b s v) : Calls Try.prog 61 #[.pointer (some ⟨b, 0, none⟩), .int .i64 vw, .int .i64 nm] w (FolEnd b base (folV s vw nm) w v) := by
  obtain ⟨a, c, rfl, _, _, _⟩ := row_form H.row
  obtain ⟨c0, c1, c2, c3, fr⟩ := H.c
  have f0 := fr 0
  have f1 := fr 1
  have hlt := lt_of_block H.box
  have HY := hid (H.set_vn vw nm)
  by_cases h1 : vw < s.vw
  · have HE : Hid (folV s vw nm = none) := hid (by unfold folV; rw [if_pos (.inl h1)])
    generalize s.log.length = n at *
    clear H HY
    go_enter Try.func61, Try.ntmps61
    go_wp2_with fail
    go_ret
    exact .inl ⟨HE.out, rfl, _, SStep.refl _ _ _⟩
  · by_cases h2 : nm > vw
    · have HE : Hid (folV s vw nm = none) := hid (by unfold folV; rw [if_pos (.inr h2)])
      generalize s.log.length = n at *
      clear H HY
      go_enter Try.func61, Try.ntmps61
      go_wp2_with fail
      go_ret
      exact .inl ⟨HE.out, rfl, _, SStep.refl _ _ _⟩
    · have HE : Hid (folV s vw nm = some ⟨vw, nm, s.cm, s.log⟩) := hid (by unfold folV; rw [if_neg (by omega)])
      generalize s.log.length = n at *
      clear H
      go_enter Try.func61, Try.ntmps61
      go_wp2_with fail
      go_ret
      exact .inr ⟨_, _, HE.out, rfl, HY.out.1, HY.out.2⟩
end Go.Proofs.Ytaonchdpnllhpaa
