/- Layer 17: message.Fold: what a state does. Layer 17: a state's log is written anew. Layer 17: message.Fold of any records. -/
import Derived.Test.YtmaecpmdikdclaaMD
import Derived.Test.YtmaecpmdikdclaaAN
import Derived.Test.YtmaecpmdikdclaaSC
import Derived.Test.YtmaecpmdikdclaaMQ
import Derived.Test.YtmaecpmdikdclaaShelfc
import Derived.Deep.RegionLaw
namespace Go.Proofs.Ytmaecpmdikdclaa
open Go.RowKit
theorem sclone_any (s : List UInt8) (w : World) (hs : s.length ≤ 281474976710656) : Calls Try.prog 90 #[.string ⟨s.toArray⟩] w fun e w' => e = .returned (.string ⟨s.toArray⟩) ∧ Below w.heap.size w w' := by
  have hc := hid (Try.stringslite_Clone ⟨s.toArray⟩ w (by show s.toArray.size ≤ _; simpa using hs))
  go_enter Try.func90, Try.ntmps90
  go_wp2_with (go_at_call 92; refine hc.out.mono ?_; clear hc; rintro e w' ⟨rfl, hb⟩)
  go_ret
  exact ⟨rfl, hb⟩
/-- Entries as cells. -/
def cellsE (L : List Ent) : List Value := L.flatMap fun x => [.int .i64 x.v, .string ⟨x.d.toArray⟩]
theorem cellsE_len (L : List Ent) : (cellsE L).length = L.length * 2 := by
  induction L with
  | nil => rfl
  | cons x r ih => unfold cellsE at ih ⊢; rw [List.flatMap_cons, List.length_append, ih]; simp only [List.length_cons, List.length_nil]; omega
theorem cellsE_app (L M : List Ent) : cellsE (L ++ M) = cellsE L ++ cellsE M := List.flatMap_append
theorem cellsE_one (x : Ent) : cellsE [x] = [.int .i64 x.v, .string ⟨x.d.toArray⟩] := rfl
theorem cellsE_take (L : List Ent) (k : Nat) : cellsE (L.take k) = (cellsE L).take (k * 2) := by
  induction L generalizing k with
  | nil => simp [cellsE]
  | cons x r ih =>
    cases k with
    | zero => simp [cellsE]
    | succ k =>
      have := ih k
      unfold cellsE at this ⊢
      rw [List.take_succ_cons, List.flatMap_cons, List.flatMap_cons, this, show (k + 1) * 2 = k * 2 + 1 + 1 by omega]
      rfl
theorem cellsE_get (L : List Ent) (j : Nat) (h : j < L.length) : (cellsE L)[j * 2]? = some (.int .i64 L[j].v) ∧ (cellsE L)[j * 2 + 1]? = some (.string ⟨L[j].d.toArray⟩) := by
  induction L generalizing j with
  | nil => simp at h
  | cons x r ih =>
    cases j with
    | zero => exact ⟨rfl, rfl⟩
    | succ j =>
      have := ih j (by simpa using h)
      unfold cellsE at this ⊢
      rw [List.flatMap_cons, show (j + 1) * 2 = j * 2 + 2 by omega]
      simp only [List.cons_append, List.nil_append, List.getElem_cons_succ]
      exact this
/-- An owned row of entries, as entries that lie there. -/
theorem es_of_row {w : World} {base n : Nat} {e : TypeId} {v : Value} {L : List Ent} (h : w.ownsRow base e 2 v n (cellsE L)) : n = L.length ∧ ∃ a c, v = .slice a n c ∧ EsAt w.cell? a L := by
  have hl := h.1
  rw [cellsE_len] at hl
  obtain ⟨a, c, rfl, _, _, hr⟩ := row_form h
  refine ⟨by omega, a, c, rfl, ?_⟩
  rcases hr with ⟨rfl, rfl, rfl⟩ | ⟨g, rfl, _, _, hc⟩
  · exact .inl (List.eq_nil_of_length_eq_zero (by omega))
  · exact .inr ⟨g, 0, rfl, fun j hj => by
      obtain ⟨h1, h2⟩ := cellsE_get L j hj
      rw [Nat.zero_add]
      exact ⟨hc _ _ h1, hc _ _ h2⟩⟩
/-- A row that is cut. -/
theorem row_cut {w : World} {base n size : Nat} {e : TypeId} {a : Option Addr} {c : Nat} {xs : List Value} (h : w.ownsRow base e size (.slice a n c) n xs) (k : Nat) (hk : k ≤ n) : w.ownsRow base e size (.slice a k c) k (xs.take (k * size)) := by
  have hl := h.1
  refine ⟨by rw [List.length_take, hl]; exact Nat.min_eq_left (Nat.mul_le_mul_right _ hk), ?_⟩
  rcases h.2 with ⟨e1, e2⟩ | ⟨g, cap, cur, e1, hg, hh, hnc, hcm, hcs, ht⟩
  · injection e1 with e1 e2 e3
    subst e1 e2 e3
    obtain rfl : k = 0 := by omega
    exact .inl ⟨rfl, rfl⟩
  · injection e1 with e1 e2 e3
    subst e1 e3
    refine .inr ⟨g, c, cur, rfl, hg, hh, by omega, hcm, hcs, ?_⟩
    rw [← ht, List.take_take, Nat.min_eq_left (Nat.mul_le_mul_right _ hk)]
/-- What records tell. -/
structure St17 where
  vw : Int
  nm : Int
  cm : Int
  log : List Ent
  deriving DecidableEq
def folV (s : St17) (vw nm : Int) : Option St17 := if vw < s.vw ∨ nm > vw then none else some ⟨vw, nm, s.cm, s.log⟩
def folL (s : St17) (op : Nat) (L : List Ent) : Option St17 := if op > s.log.length ∨ op + L.length > 2048 then none else some ⟨s.vw, s.nm, s.cm, s.log.take op ++ L⟩
def folC (s : St17) (op : Int) : Option St17 := if op > s.log.length ∨ op < s.cm then none else some ⟨s.vw, s.nm, op, s.log⟩
def fol (s : St17) (r : Rec17) : Option St17 := if r.ok = false then none else if r.kd = 1 then folV s r.vw r.nm else if r.kd = 2 then folL s r.op.toNat r.log else folC s r.op
def foldS : St17 → List Rec17 → Option St17
  | s, [] => some s
  | s, r :: l => match fol s r with | none => none | some t => foldS t l
/-- A state in its box. -/
structure SAt (w : World) (base b : Nat) (s : St17) (v : Value) : Prop where
  box : w.heap[b]? = some (.cells #[.int .i64 s.vw, .int .i64 s.nm, .int .i64 s.cm, v] 64 (0, 0))
  row : w.ownsRow base 109 2 v s.log.length (cellsE s.log)
theorem SAt.own_ne {w : World} {base b : Nat} {s : St17} {v : Value} (h : SAt w base b s v) : v.ownBlock ≠ some b := fun e => by
  rcases h.row.2 with ⟨rfl, _⟩ | ⟨g, cap, cur, rfl, _, hh, _⟩
  · cases e
  · injection e with e
    have hb := h.box
    rw [← (show g = b from e), hh] at hb
    injection hb with hb
    injection hb with _ ht _
    exact absurd ht (by decide)
theorem SAt.below {w w' : World} {base b : Nat} {s : St17} {v : Value} (h : SAt w base b s v) (hb : Below w.heap.size w w') : SAt w' base b s v := ⟨(hb.block _ (lt_of_block h.box)).trans h.box, row_below2 h.row hb⟩
theorem SAt.c {w : World} {base b : Nat} {s : St17} {v : Value} (h : SAt w base b s v) : w.cell? ⟨b, 0, none⟩ = some (.int .i64 s.vw) ∧ w.cell? ⟨b, 1, none⟩ = some (.int .i64 s.nm) ∧ w.cell? ⟨b, 2, none⟩ = some (.int .i64 s.cm) ∧ w.cell? ⟨b, 3, none⟩ = some v ∧ ∀ k, w.frozen? ⟨b, k, none⟩ = false :=
  ⟨by rw [Lib.cell_of_heap h.box]; rfl, by rw [Lib.cell_of_heap h.box]; rfl, by rw [Lib.cell_of_heap h.box]; rfl, by rw [Lib.cell_of_heap h.box]; rfl, fun k => Lib.frozen_of_heap h.box k⟩
/-- What turns, where a state in box b turns whose row is v's: nothing else that was there. -/
def STurn (b : Nat) (v : Value) (k : Nat) : Prop := k = b ∨ v.ownBlock = some k
def SStep (b : Nat) (w : World) (v : Value) (w' : World) (v' : Value) : Prop := Chg w w' (STurn b v) ∧ (v'.ownBlock = v.ownBlock ∨ ∃ g, v'.ownBlock = some g ∧ w.heap.size ≤ g)
theorem SStep.refl (b : Nat) (w : World) (v : Value) : SStep b w v w v := ⟨Chg.refl _ _, .inl rfl⟩
theorem SStep.trans {b : Nat} {a1 a2 a3 : World} {u v x : Value} (s : SStep b a1 u a2 v) (t : SStep b a2 v a3 x) : SStep b a1 u a3 x := by
  refine ⟨s.1.trans t.1 fun i hi h => ?_, ?_⟩
  · rcases h with h | h
    · exact .inl h
    · rcases s.2 with e | ⟨g, e, hg⟩
      · exact .inr (e ▸ h)
      · rw [e] at h; injection h with h; omega
  · rcases t.2 with e | ⟨g, e, hg⟩
    · rw [e]; exact s.2
    · exact .inr ⟨g, e, Nat.le_trans s.1.size hg⟩
theorem SStep.below {b : Nat} {w w' : World} {v : Value} (hb : Below w.heap.size w w') : SStep b w v w' v := ⟨Chg.of_below hb, .inl rfl⟩
theorem SAt.set_cm {w : World} {base b : Nat} {s : St17} {v : Value} (h : SAt w base b s v) (x : Int) : SAt (w.setCell ⟨b, 2, none⟩ (.int .i64 x)) base b ⟨s.vw, s.nm, x, s.log⟩ v ∧ SStep b w v (w.setCell ⟨b, 2, none⟩ (.int .i64 x)) v := by
  refine ⟨⟨by rw [heap_setCell_same _ _ _ _ _ _ h.box]; rfl, row_chg4 h.row (Chg.setCell w ⟨b, 2, none⟩ _) fun g e e2 => h.own_ne (by rw [e]; exact congrArg some e2)⟩, (Chg.setCell w ⟨b, 2, none⟩ _).mono fun _ _ e => .inl e, .inl rfl⟩
theorem SAt.set_vn {w : World} {base b : Nat} {s : St17} {v : Value} (h : SAt w base b s v) (x y : Int) : SAt ((w.setCell ⟨b, 0, none⟩ (.int .i64 x)).setCell ⟨b, 1, none⟩ (.int .i64 y)) base b ⟨x, y, s.cm, s.log⟩ v ∧ SStep b w v ((w.setCell ⟨b, 0, none⟩ (.int .i64 x)).setCell ⟨b, 1, none⟩ (.int .i64 y)) v := by
  have k := (Chg.setCell w ⟨b, 0, none⟩ (.int .i64 x)).trans (Chg.setCell _ ⟨b, 1, none⟩ (.int .i64 y)) fun _ _ e => e
  refine ⟨⟨by rw [heap_setCell_same _ _ _ _ _ _ (heap_setCell_same _ _ _ _ _ _ h.box)]; rfl, row_chg4 h.row k fun g e e2 => h.own_ne (by rw [e]; exact congrArg some e2)⟩, k.mono fun _ _ e => .inl e, .inl rfl⟩
theorem SAt.set_log {w : World} {base b : Nat} {s : St17} {v u : Value} {L : List Ent} (h : SAt w base b s v) (hu : w.ownsRow base 109 2 u L.length (cellsE L)) (hub : u.ownBlock ≠ some b) : SAt (w.setCell ⟨b, 3, none⟩ u) base b ⟨s.vw, s.nm, s.cm, L⟩ u :=
  ⟨by rw [heap_setCell_same _ _ _ _ _ _ h.box]; rfl, row_chg4 hu (Chg.setCell w ⟨b, 3, none⟩ _) fun g e e2 => hub (by rw [e]; exact congrArg some e2)⟩
/-- How a call on a state ends: no, and the state is as it was or no one asks; or yes. -/
def FolEnd (b base : Nat) (o : Option St17) (w : World) (v : Value) (e : Ending) (w' : World) : Prop := (o = none ∧ e = .returned (.bool false) ∧ ∃ v', SStep b w v w' v') ∨ ∃ t v', o = some t ∧ e = .returned (.bool true) ∧ SAt w' base b t v' ∧ SStep b w v w' v'
set_option maxRecDepth 100000 in
set_option maxHeartbeats 400000 in
theorem commit_any17 (b base : Nat) (s : St17) (v : Value) (op : Int) (w : World) (H : SAt w base b s v) : Calls Try.prog 81 #[.pointer (some ⟨b, 0, none⟩), .int .i64 op] w (FolEnd b base (folC s op) w v) := by
  obtain ⟨a, c, rfl, _, _, _⟩ := row_form H.row
  obtain ⟨c0, c1, c2, c3, fr⟩ := H.c
  have f2 := fr 2
  have hlt := lt_of_block H.box
  have HY := hid (H.set_cm op)
  by_cases h1 : op > s.log.length
  · have HE : Hid (folC s op = none) := hid (by unfold folC; rw [if_pos (.inl h1)])
    generalize s.log.length = n at *
    clear H HY
    go_enter Try.func81, Try.ntmps81
    go_wp2_with fail
    go_ret
    exact .inl ⟨HE.out, rfl, _, SStep.refl _ _ _⟩
  · by_cases h2 : op < s.cm
    · have HE : Hid (folC s op = none) := hid (by unfold folC; rw [if_pos (.inr h2)])
      generalize s.log.length = n at *
      clear H HY
      go_enter Try.func81, Try.ntmps81
      go_wp2_with fail
      go_ret
      exact .inl ⟨HE.out, rfl, _, SStep.refl _ _ _⟩
    · have HE : Hid (folC s op = some ⟨s.vw, s.nm, op, s.log⟩) := hid (by unfold folC; rw [if_neg (by omega)])
      generalize s.log.length = n at *
      clear H
      go_enter Try.func81, Try.ntmps81
      go_wp2_with fail
      go_ret
      exact .inr ⟨_, _, HE.out, rfl, HY.out.1, HY.out.2⟩
set_option maxRecDepth 100000 in
set_option maxHeartbeats 400000 in
theorem rise_any17 (b base : Nat) (s : St17) (v : Value) (vw nm : Int) (w : World) (H : SAt w base b s v) : Calls Try.prog 79 #[.pointer (some ⟨b, 0, none⟩), .int .i64 vw, .int .i64 nm] w (FolEnd b base (folV s vw nm) w v) := by
  obtain ⟨a, c, rfl, _, _, _⟩ := row_form H.row
  obtain ⟨c0, c1, c2, c3, fr⟩ := H.c
  have f0 := fr 0
  have f1 := fr 1
  have hlt := lt_of_block H.box
  have HY := hid (H.set_vn vw nm)
  by_cases h1 : vw < s.vw
  · have HE : Hid (folV s vw nm = none) := hid (by unfold folV; rw [if_pos (.inl h1)])
    generalize s.log.length = n at *
    clear H HY
    go_enter Try.func79, Try.ntmps79
    go_wp2_with fail
    go_ret
    exact .inl ⟨HE.out, rfl, _, SStep.refl _ _ _⟩
  · by_cases h2 : nm > vw
    · have HE : Hid (folV s vw nm = none) := hid (by unfold folV; rw [if_pos (.inr h2)])
      generalize s.log.length = n at *
      clear H HY
      go_enter Try.func79, Try.ntmps79
      go_wp2_with fail
      go_ret
      exact .inl ⟨HE.out, rfl, _, SStep.refl _ _ _⟩
    · have HE : Hid (folV s vw nm = some ⟨vw, nm, s.cm, s.log⟩) := hid (by unfold folV; rw [if_neg (by omega)])
      generalize s.log.length = n at *
      clear H
      go_enter Try.func79, Try.ntmps79
      go_wp2_with fail
      go_ret
      exact .inr ⟨_, _, HE.out, rfl, HY.out.1, HY.out.2⟩
end Go.Proofs.Ytmaecpmdikdclaa
namespace Go.Proofs.Ytmaecpmdikdclaa
open Go.RowKit
theorem elemN_ent : ElemN Try.prog 27 109 2 24 := by
  obtain ⟨i, hi, hz0, hz1, hz2⟩ := info_parts (show (Try.prog.info? 109).map (fun i => (i.zero, i.size, i.bytes)) = some (some (.agg #[.int .i64 0, .string ⟨#[]⟩]), 2, 24) by kernel_rfl)
  exact ⟨Try.underlying27, ⟨i, _, hi, hz0, hz1, hz2, rfl⟩, by decide⟩
theorem SStep.bel {w0 w w' : World} {b : Nat} {v v' : Value} (h : SStep b w v w' v') (hb : Below w0.heap.size w0 w) (h1 : w0.heap.size ≤ b) (h2 : ∀ k, v.ownBlock = some k → w0.heap.size ≤ k) : Below w0.heap.size w0 w' :=
  hb.trans (h.1.below hb.size fun i e => by
    rcases e with e | e
    · omega
    · exact h2 i e)
theorem sat_app {w3 w6 : World} {base b : Nat} {s : St17} {v v' : Value} {o : Obj} {x : Ent} (H : SAt w3 base b s v) (hr : w6.ownsRow base 109 2 v' (s.log.length + 1) (cellsE s.log ++ [.int .i64 x.v, .string ⟨x.d.toArray⟩])) (hs : Step (w3.alloc o) v w6 v') :
    w6.cell? ⟨b, 3, none⟩ = some v ∧ w6.frozen? ⟨b, 3, none⟩ = false ∧ b < w6.heap.size ∧ SAt (w6.setCell ⟨b, 3, none⟩ v') base b ⟨s.vw, s.nm, s.cm, s.log ++ [x]⟩ v' ∧ SStep b w3 v (w6.setCell ⟨b, 3, none⟩ v') v' := by
  have hlt := lt_of_block H.box
  have hne := H.own_ne
  have hz : (w3.alloc o).heap.size = w3.heap.size + 1 := by simp
  have b6 : w6.heap[b]? = some (.cells #[.int .i64 s.vw, .int .i64 s.nm, .int .i64 s.cm, v] 64 (0, 0)) := by
    rw [hs.1.block b (by omega) (fun e => hne e.symm), Below.heap_alloc _ _ _ hlt]; exact H.box
  have hv' : v'.ownBlock ≠ some b := by
    rcases hs.2 with e | ⟨g, e, hg⟩
    · rw [e]; exact hne
    · rw [e]; intro h; injection h with h; omega
  have hr' : w6.ownsRow base 109 2 v' (s.log ++ [x]).length (cellsE (s.log ++ [x])) := by
    rw [cellsE_app, cellsE_one, List.length_append]; exact hr
  have k1 : Chg w3 w6 (STurn b v) := (Chg.alloc w3 o _).trans (Chg.of_grown hs.1) fun i _ e => .inr e
  refine ⟨by rw [Lib.cell_of_heap b6]; rfl, Lib.frozen_of_heap b6 3, lt_of_block b6, ⟨by rw [heap_setCell_same _ _ _ _ _ _ b6]; rfl, row_chg4 hr' (Chg.setCell w6 ⟨b, 3, none⟩ _) fun g e e2 => hv' (by rw [e]; exact congrArg some e2)⟩, k1.trans (Chg.setCell w6 ⟨b, 3, none⟩ v') (fun i _ e => .inl e), ?_⟩
  rcases hs.2 with e | ⟨g, e, hg⟩
  · exact .inl e
  · exact .inr ⟨g, e, by omega⟩
set_option maxRecDepth 100000 in
set_option maxHeartbeats 1000000 in
theorem relog_any17 (w0 : World) (b base : Nat) (s : St17) (v : Value) (op : Nat) (a : Option Addr) (n c : Nat) (L : List Ent) (w : World) (H : SAt w base b s v) (hm : s.log.length ≤ 2048) (hn : L.length = n) (hnm : n ≤ 9000000000000) (hop : op ≤ 9000000000000) (hN : EsAt w0.cell? a L) (hs : ∀ x ∈ L, x.d.length ≤ 281474976710656) (hb0 : Below w0.heap.size w0 w) (hbase : w0.heap.size ≤ base) (hbb : w0.heap.size ≤ b) (hbs : base ≤ w.heap.size) : Calls Try.prog 80 #[.pointer (some ⟨b, 0, none⟩), .int .i64 op, .slice a n c] w (FolEnd b base (folL s op L) w v) := by
  obtain ⟨va, vc, rfl, hvc, _, hva⟩ := row_form H.row
  obtain ⟨c0, c1, c2, c3, fr⟩ := H.c
  have f3 := fr 3
  have hlt := lt_of_block H.box
  by_cases h1 : op > s.log.length
  · have HE : Hid (folL s op L = none) := hid (by unfold folL; rw [if_pos (.inl h1)])
    generalize s.log.length = m at *
    clear H hN hs hn hva
    go_enter Try.func80, Try.ntmps80
    go_wp2_with fail
    go_ret
    exact .inl ⟨HE.out, rfl, _, SStep.refl _ _ _⟩
  by_cases h2 : op + n > 2048
  · have HE : Hid (folL s op L = none) := hid (by unfold folL; rw [if_pos (.inr (by omega))])
    generalize s.log.length = m at *
    clear H hN hs hn hva
    go_enter Try.func80, Try.ntmps80
    go_wp2_with fail
    go_ret
    exact .inl ⟨HE.out, rfl, _, SStep.refl _ _ _⟩
  have HE : Hid (folL s op L = some ⟨s.vw, s.nm, s.cm, s.log.take op ++ L⟩) := hid (by unfold folL; rw [if_neg (by omega)])
  have hcut := row_cut H.row op (by omega)
  rw [← cellsE_take] at hcut
  have hlen : (s.log.take op).length = op := by rw [List.length_take]; omega
  have hob : ∀ m m', (Value.slice va m vc).ownBlock = (Value.slice va m' vc).ownBlock := by cases va <;> intros <;> rfl
  have HS : Hid (SAt (w.setCell ⟨b, 3, none⟩ (.slice va op vc)) base b ⟨s.vw, s.nm, s.cm, s.log.take op⟩ (.slice va op vc)) := hid (H.set_log (by rw [hlen]; exact hcut) (by rw [hob op s.log.length]; exact H.own_ne))
  have HT : Hid (SStep b w (.slice va s.log.length vc) (w.setCell ⟨b, 3, none⟩ (.slice va op vc)) (.slice va op vc)) := hid ⟨(Chg.setCell w ⟨b, 3, none⟩ _).mono fun _ _ e => .inl e, .inl (hob _ _)⟩
  have HV : Hid (∀ k, (Value.slice va s.log.length vc).ownBlock = some k → w0.heap.size ≤ k) := hid fun k e => Nat.le_trans hbase (row_lt4 H.row k e).1
  have HZ := hid hN
  have HD := hid hs
  have HN := hid hn
  have HB0 := hid hb0
  have hle : op ≤ vc := by omega
  generalize hm0 : s.log.length = m at *
  generalize s.log.take op = P at *
  generalize s.vw = svw at *
  generalize s.nm = snm at *
  generalize s.cm = scm at *
  have eC : ∀ args w, (callFunc 90 args).run Try.prog w = .ok (.enter 90 args) w := enters_of Try.func90 (by kernel_rfl) rfl
  clear H hN hs hn hcut hva hb0 hm0 hob
  go_enter Try.func80, Try.ntmps80
  go_wp2_with fail
  have hd : decide ((2048 : Int) < (op : Int) + (n : Int)) = false := decide_eq_false (by omega)
  simp only [hd]
  go_loopw [34] (fun iv wr => ∃ (k : Nat) (v : Value), iv = .int .i64 k ∧ k ≤ n ∧ Hid (SAt wr base b ⟨svw, snm, scm, P ++ L.take k⟩ v) ∧ Hid (SStep b w (.slice va m vc) wr v)) (fun iv _ => n - (intOf iv).toNat)
  case atStart => exact ⟨0, _, rfl, Nat.zero_le _, by rw [List.take_zero, List.append_nil]; exact HS, HT⟩
  case round =>
    obtain ⟨k, v, rfl, hk, HS, HT⟩ := hrel
    by_cases hlt : k < n
    · have hkl : k < L.length := by rw [HN.out]; exact hlt
      have hbr : Below w0.heap.size w0 wr := HT.out.bel HB0.out hbb HV.out
      obtain ⟨zb, zo, e1, z0, z1⟩ := (HZ.out.keep (below_keep hbr)).get hkl
      subst e1
      have HC := hid fun W => sclone_any L[k].d W (HD.out _ (List.getElem_mem hkl))
      have HP : Hid (P ++ L.take (k + 1) = (P ++ L.take k) ++ [L[k]]) := hid (by rw [List.take_add_one, List.getElem?_eq_getElem hkl, List.append_assoc]; rfl)
      have hPl : (P ++ L.take k).length + 1 ≤ 2048 := by rw [List.length_append, List.length_take, hlen]; omega
      obtain ⟨x, hx⟩ : ∃ x, x = L[k] := ⟨_, rfl⟩
      rw [← hx] at HC HP z0 z1
      clear hx
      obtain ⟨xv, xd⟩ := x
      simp only at z0 z1 HC
      generalize hP2 : P ++ L.take (k + 1) = P2 at *
      have HQ := hid hP2
      clear hP2
      generalize P ++ L.take k = P1 at *
      have hrow := HS.out.row
      simp only at hrow
      obtain ⟨ra, rc, rfl, _, _, _⟩ := row_form hrow
      clear hrow
      have hbase2 : base ≤ wr.heap.size := Nat.le_trans hbs HT.out.1.size
      obtain ⟨W5, hW5⟩ : ∃ W, W = wr.alloc (.cells #[.int .i64 xv, .string ⟨xd.toArray⟩] 109) := ⟨_, rfl⟩
      have hb5 : Below wr.heap.size wr W5 := by rw [hW5]; exact (Below.refl _ wr).alloc (Nat.le_refl _) _
      have b5 : W5.heap[wr.heap.size]? = some (.cells #[.int .i64 xv, .string ⟨xd.toArray⟩] 109 (0, 0)) := by rw [hW5]; exact heap_alloc_new wr _
      have HF : Hid (∀ W, Below W5.heap.size W5 W → (W.cell? ⟨wr.heap.size, 0, none⟩ = some (.int .i64 xv) ∧ W.cell? ⟨wr.heap.size, 1, none⟩ = some (.string ⟨xd.toArray⟩) ∧ wr.heap.size < W.heap.size) ∧ (W.cell? ⟨b, 3, none⟩ = some (.slice ra P1.length rc) ∧ b < W.heap.size) ∧ SAt W base b ⟨svw, snm, scm, P1⟩ (.slice ra P1.length rc)) := hid fun W hW => by
        have hb := hb5.trans (hW.mono hb5.size)
        have hs := HS.out.below hb
        have hb' := (hW.block _ (lt_of_block b5)).trans b5
        exact ⟨⟨by rw [Lib.cell_of_heap hb']; rfl, by rw [Lib.cell_of_heap hb']; rfl, lt_of_block hb'⟩, ⟨hs.c.2.2.2.1, lt_of_block hs.box⟩, hs⟩
      have HG : Hid (∀ w9 v9, SAt w9 base b ⟨svw, snm, scm, P2⟩ v9 → (∃ w3, Below W5.heap.size W5 w3 ∧ SStep b w3 (.slice ra P1.length rc) w9 v9) → SStep b w (.slice va m vc) w9 v9) := hid fun w9 v9 _ ⟨w3, h3, h4⟩ => (HT.out.trans (SStep.below (hb5.trans (h3.mono hb5.size)))).trans h4
      obtain ⟨⟨x0, x1, xl⟩, ⟨y0, yl⟩, _⟩ := HF.out W5 (Below.refl _ _)
      obtain ⟨⟨u0, u1, ul⟩, ⟨t0, tl⟩, _⟩ := HF.out W5.drew (Below.refl _ _).drew
      clear HS HT hbr
      go_wp2_with fail
      rw [← hW5]
      clear hW5
      go_region_law (first
        | (refine step_call2 (by rfl) 90 #[.tmp 46] #[9] (by rfl) eC #[.string ⟨xd.toArray⟩] (by rfl) _ (HC.out _) ?_; rintro e w3 ⟨rfl, hb3⟩; refine ⟨_, rfl, ?_⟩; replace hb3 : Below W5.heap.size W5 w3 := (Below.refl _ W5).drew.trans hb3; have H3 := HF.out w3 hb3; obtain ⟨⟨p0, p1, pl⟩, ⟨q0, ql⟩, HS3⟩ := H3)
        | (refine step_appN _ (by rfl) (.tmp 42) (.tmp 49) 27 (by rfl) elemN_ent base (.slice ra P1.length rc) P1.length (cellsE P1) (by rfl) (World.ownsRow.alloc HS3.row _) _ (by rfl) 1 [.int .i64 xv, .string ⟨xd.toArray⟩] (.inr ⟨⟨_, 0, none⟩, 1, rfl, cells_new4 _ [.int .i64 xv, .string ⟨xd.toArray⟩] 109 _ rfl⟩) rfl (by simp [Value.oneCell']) (by simp only [maxLen]; omega) (by omega) (by simp only [World.size_alloc]; have := hb3.size; omega) ?_; intro v' w6 hr6 hs6; obtain ⟨a6, c6, rfl, _, _, _⟩ := row_form hr6; have H6 := sat_app (x := ⟨xv, xd⟩) HS3 hr6 hs6; obtain ⟨g0, g1, gl, g2, g3⟩ := H6; clear hr6 hs6))
      all_goals
        go_wp2_with fail
        simp only at g2
        rw [← HP.out] at g2
        have G := HG.out _ _ g2 ⟨w3, hb3, g3⟩
        rw [← HQ.out] at g2
        exact ⟨⟨k + 1, _, by go_num, by omega, hid g2, hid G⟩, by simp [intOf]; omega⟩
    · go_wp2_with fail
      go_ret
      have e : P ++ L.take k = P ++ L := by rw [List.take_of_length_le (by rw [HN.out]; omega)]
      rw [e] at HS
      exact .inr ⟨_, _, HE.out, rfl, HS.out, HT.out⟩
end Go.Proofs.Ytmaecpmdikdclaa
namespace Go.Proofs.Ytmaecpmdikdclaa
open Go.RowKit
theorem FolEnd.bool {b base : Nat} {o : Option St17} {w : World} {v : Value} {e : Ending} {w' : World} (h : FolEnd b base o w v e w') : ∃ y, e = .returned (.bool y) := by
  rcases h with ⟨_, h2, _⟩ | ⟨_, _, _, h2, _⟩
  · exact ⟨_, h2⟩
  · exact ⟨_, h2⟩
theorem FolEnd.after {b base : Nat} {o : Option St17} {w w1 : World} {v : Value} {e : Ending} {w' : World} (hb : Below w.heap.size w w1) (h : FolEnd b base o w1 v e w') : FolEnd b base o w v e w' := by
  rcases h with ⟨h1, h2, v', h3⟩ | ⟨t, v', h1, h2, h3, h4⟩
  · exact .inl ⟨h1, h2, v', (SStep.below hb).trans h3⟩
  · exact .inr ⟨t, v', h1, h2, h3, (SStep.below hb).trans h4⟩
/-- A record whose log lies there. -/
structure RIs (C : Addr → Option Value) (r : Rec17) (a : Option Addr) (n : Nat) : Prop where
  len : r.log.length = n
  es : EsAt C a r.log
  sm : ∀ x ∈ r.log, x.d.length ≤ 9223372036854775807
  lm : r.log.length ≤ 9000000000000
set_option maxRecDepth 100000 in
set_option maxHeartbeats 1000000 in
theorem follow_any17 (w0 : World) (b base : Nat) (s : St17) (v : Value) (r : Rec17) (a : Option Addr) (n c : Nat) (w : World) (H : SAt w base b s v) (hm : s.log.length ≤ 2048) (hr : RIs w0.cell? r a n) (hb0 : Below w0.heap.size w0 w) (hbase : w0.heap.size ≤ base) (hbb : w0.heap.size ≤ b) (hbs : base ≤ w.heap.size) : Calls Try.prog 58 #[.pointer (some ⟨b, 0, none⟩), recV r.kd r.vw r.nm r.op (.slice a n c)] w (FolEnd b base (fol s r) w v) := by
  obtain ⟨hn, hN, hsm, hlm⟩ := hr
  obtain ⟨W1, hW1⟩ : ∃ W, W = w.alloc (.cells #[.int .i64 r.kd, .int .i64 r.vw, .int .i64 r.nm, .int .i64 r.op, .slice a n c] 50) := ⟨_, rfl⟩
  have hb1 : Below w.heap.size w W1 := by rw [hW1]; exact (Below.refl _ w).alloc (Nat.le_refl _) _
  have hB1 : W1.heap[w.heap.size]? = some (.cells #[.int .i64 r.kd, .int .i64 r.vw, .int .i64 r.nm, .int .i64 r.op, .slice a n c] 50 (0, 0)) := by rw [hW1]; exact heap_alloc_new w _
  have box : ∀ W, Below W1.heap.size W1 W → W.cell? ⟨w.heap.size, 0, none⟩ = some (.int .i64 r.kd) ∧ W.cell? ⟨w.heap.size, 1, none⟩ = some (.int .i64 r.vw) ∧ W.cell? ⟨w.heap.size, 2, none⟩ = some (.int .i64 r.nm) ∧ W.cell? ⟨w.heap.size, 3, none⟩ = some (.int .i64 r.op) ∧ W.cell? ⟨w.heap.size, 4, none⟩ = some (.slice a n c) := fun W h => by
    have e := (h.block _ (lt_of_block hB1)).trans hB1
    refine ⟨?_, ?_, ?_, ?_, ?_⟩ <;> (rw [Lib.cell_of_heap e]; rfl)
  have hbw : Below w0.heap.size w0 W1 := hb0.trans (hb1.mono hb0.size)
  have hR := rightRec17_any r a n c W1 hn (hN.keep (below_keep hbw)) hsm
  have hA : ∀ W, Below W1.heap.size W1 W → ∀ e w', FolEnd b base (fol s r) W v e w' → FolEnd b base (fol s r) w v e w' := fun W hW e w' h => h.after (hb1.trans (hW.mono hb1.size))
  have hS : ∀ W, Below W1.heap.size W1 W → SAt W base b s v ∧ Below w0.heap.size w0 W ∧ base ≤ W.heap.size := fun W hW => ⟨H.below (hb1.trans (hW.mono hb1.size)), hbw.trans (hW.mono hbw.size), Nat.le_trans hbs (hb1.trans (hW.mono hb1.size)).size⟩
  have hfol : fol s r = if r.ok = false then none else if r.kd = 1 then folV s r.vw r.nm else if r.kd = 2 then folL s r.op.toNat r.log else folC s r.op := rfl
  have hfacts : r.ok = true → ((1 ≤ r.kd ∧ r.kd ≤ 3) ∧ 0 ≤ r.op ∧ r.op ≤ 1099511627776) ∧ ∀ x ∈ r.log, x.d.length ≤ 281474976710656 := fun h => by
    obtain ⟨a, _, _, b, c⟩ := Rec17.facts h
    exact ⟨⟨a, b⟩, fun x hx => Nat.le_trans (Ent.facts ((logOk.facts c).2 x hx)).2.2 (by decide)⟩
  have hV : ∀ W, Below W1.heap.size W1 W → Calls Try.prog 79 #[.pointer (some ⟨b, 0, none⟩), .int .i64 r.vw, .int .i64 r.nm] W (FolEnd b base (folV s r.vw r.nm) W v) := fun W hW => rise_any17 b base s v _ _ W (hS W hW).1
  have hC : ∀ W, Below W1.heap.size W1 W → Calls Try.prog 81 #[.pointer (some ⟨b, 0, none⟩), .int .i64 r.op] W (FolEnd b base (folC s r.op) W v) := fun W hW => commit_any17 b base s v _ W (hS W hW).1
  have hL : (∀ x ∈ r.log, x.d.length ≤ 281474976710656) → ∀ k : Nat, r.op = k → k ≤ 1099511627776 → ∀ W, Below W1.heap.size W1 W → Calls Try.prog 80 #[.pointer (some ⟨b, 0, none⟩), .int .i64 k, .slice a n c] W (FolEnd b base (folL s k r.log) W v) := fun hx k _ hk W hW => relog_any17 w0 b base s v k a n c r.log W (hS W hW).1 hm hn (by omega) (by omega) hN hx (hS W hW).2.1 hbase hbb (hS W hW).2.2
  clear hn hN hsm hlm H hB1 hbw hS
  obtain ⟨kd, vw, nm, op, L⟩ := r
  simp only at *
  generalize fol s ⟨kd, vw, nm, op, L⟩ = o at *
  generalize hok : Rec17.ok ⟨kd, vw, nm, op, L⟩ = ok at *
  clear hok
  cases ok with
  | false =>
    simp only [if_true] at hfol
    have HE := hid hfol
    clear hfol hA hV hC hL hfacts
    go_enter Try.func58, Try.ntmps58
    go_wp2_with fail
    rw [← hW1]
    clear hW1
    refine hR.mono ?_
    rintro e w2 ⟨rfl, hb2⟩
    clear hR
    go_wp2_with fail
    go_ret
    exact .inl ⟨HE.out, rfl, _, SStep.below (hb1.trans (hb2.mono hb1.size))⟩
  | true =>
    obtain ⟨⟨⟨k1, k2⟩, k3, k4⟩, k5⟩ := hfacts rfl
    simp only [Bool.true_eq_false, if_false] at hfol
    by_cases e1 : kd = 1
    · rw [if_pos e1] at hfol
      subst e1
      have HE := hid hfol
      clear hfol hC hL hfacts k5
      go_enter Try.func58, Try.ntmps58
      go_wp2_with fail
      rw [← hW1]
      clear hW1
      refine hR.mono ?_
      rintro e w2 ⟨rfl, hb2⟩
      clear hR
      obtain ⟨x0, x1, x2, x3, x4⟩ := box w2 hb2
      have hV2 := hV w2 hb2
      rw [← HE.out] at hV2
      clear hV box
      go_wp2_with (go_at_call 79; refine hV2.mono ?_; clear hV2; rintro e w3 hX; obtain ⟨y, rfl⟩ := hX.bool; have hX2 := hA w2 hb2 _ _ hX; clear hX)
      go_ret
      exact hX2
    · rw [if_neg e1] at hfol
      have d1 : decide (kd = 1) = false := decide_eq_false e1
      by_cases e2 : kd = 2
      · rw [if_pos e2] at hfol
        subst e2
        obtain ⟨k, rfl⟩ : ∃ k : Nat, op = k := ⟨op.toNat, by omega⟩
        rw [Int.toNat_natCast] at hfol
        have HE := hid hfol
        have hL2 := hL k5 k rfl (by omega)
        clear hfol hC hL hfacts hV k5
        go_enter Try.func58, Try.ntmps58
        go_wp2_with fail
        rw [← hW1]
        clear hW1
        refine hR.mono ?_
        rintro e w2 ⟨rfl, hb2⟩
        clear hR
        obtain ⟨x0, x1, x2, x3, x4⟩ := box w2 hb2
        have hL3 := hL2 w2 hb2
        rw [← HE.out] at hL3
        clear hL2 box
        go_wp2_with (go_at_call 80; refine hL3.mono ?_; clear hL3; rintro e w3 hX; obtain ⟨y, rfl⟩ := hX.bool; have hX2 := hA w2 hb2 _ _ hX; clear hX)
        go_ret
        exact hX2
      · obtain rfl : kd = 3 := by omega
        rw [if_neg e2] at hfol
        have HE := hid hfol
        clear hfol hL hfacts hV k5
        go_enter Try.func58, Try.ntmps58
        go_wp2_with fail
        rw [← hW1]
        clear hW1
        refine hR.mono ?_
        rintro e w2 ⟨rfl, hb2⟩
        clear hR
        obtain ⟨x0, x1, x2, x3, x4⟩ := box w2 hb2
        have hC2 := hC w2 hb2
        rw [← HE.out] at hC2
        clear hC box
        go_wp2_with (go_at_call 81; refine hC2.mono ?_; clear hC2; rintro e w3 hX; obtain ⟨y, rfl⟩ := hX.bool; have hX2 := hA w2 hb2 _ _ hX; clear hX)
        go_ret
        exact hX2
/-- Records lie there. -/
def RsAt17 (C : Addr → Option Value) (ao : Option Addr) (R : List Rec17) : Prop := R = [] ∨ ∃ b off, ao = some ⟨b, off, none⟩ ∧ ∀ j (h : j < R.length), C ⟨b, off + j * 5, none⟩ = some (.int .i64 R[j].kd) ∧ C ⟨b, off + j * 5 + 1, none⟩ = some (.int .i64 R[j].vw) ∧ C ⟨b, off + j * 5 + 2, none⟩ = some (.int .i64 R[j].nm) ∧ C ⟨b, off + j * 5 + 3, none⟩ = some (.int .i64 R[j].op) ∧ ∃ a c, C ⟨b, off + j * 5 + 4, none⟩ = some (.slice a R[j].log.length c) ∧ RIs C R[j] a R[j].log.length
theorem RIs.keep {C C' : Addr → Option Value} {r : Rec17} {a : Option Addr} {n : Nat} (h : RIs C r a n) (hk : ∀ a v, C a = some v → C' a = some v) : RIs C' r a n := ⟨h.len, h.es.keep hk, h.sm, h.lm⟩
theorem RsAt17.keep {C C' : Addr → Option Value} {ao : Option Addr} {R : List Rec17} (h : RsAt17 C ao R) (hk : ∀ a v, C a = some v → C' a = some v) : RsAt17 C' ao R := by
  rcases h with h | ⟨b, off, h, hc⟩
  · exact .inl h
  · refine .inr ⟨b, off, h, fun j hj => ?_⟩
    obtain ⟨h0, h1, h2, h3, a, c, h4, h5⟩ := hc j hj
    exact ⟨hk _ _ h0, hk _ _ h1, hk _ _ h2, hk _ _ h3, a, c, hk _ _ h4, h5.keep hk⟩
theorem RsAt17.get {C : Addr → Option Value} {ao : Option Addr} {R : List Rec17} (h : RsAt17 C ao R) {j : Nat} (hj : j < R.length) : ∃ b off, ao = some ⟨b, off, none⟩ ∧ C ⟨b, off + j * 5, none⟩ = some (.int .i64 R[j].kd) ∧ C ⟨b, off + j * 5 + 1, none⟩ = some (.int .i64 R[j].vw) ∧ C ⟨b, off + j * 5 + 2, none⟩ = some (.int .i64 R[j].nm) ∧ C ⟨b, off + j * 5 + 3, none⟩ = some (.int .i64 R[j].op) ∧ ∃ a c, C ⟨b, off + j * 5 + 4, none⟩ = some (.slice a R[j].log.length c) ∧ RIs C R[j] a R[j].log.length := by
  rcases h with h | ⟨b, off, h, hc⟩
  · subst h; simp at hj
  · exact ⟨b, off, h, hc j hj⟩
theorem fol_len {s t : St17} {r : Rec17} (h : fol s r = some t) (hs : s.log.length ≤ 2048) : t.log.length ≤ 2048 := by
  unfold fol at h
  split at h
  · cases h
  split at h
  · unfold folV at h; split at h
    · cases h
    · injection h with h; subst h; exact hs
  split at h
  · unfold folL at h; split at h
    · cases h
    · injection h with h; subst h
      simp only [List.length_append, List.length_take]
      omega
  · unfold folC at h; split at h
    · cases h
    · injection h with h; subst h; exact hs
theorem foldS_cons (s : St17) (r : Rec17) (l : List Rec17) : foldS s (r :: l) = (fol s r).bind fun t => foldS t l := by
  show (match fol s r with | none => none | some t => foldS t l) = _
  cases fol s r <;> rfl
theorem foldS_append (R T : List Rec17) : ∀ s, foldS s (R ++ T) = (foldS s R).bind fun t => foldS t T := by
  induction R with
  | nil => intro s; rfl
  | cons r R ih =>
    intro s
    rw [List.cons_append, foldS_cons, foldS_cons]
    cases fol s r with
    | none => rfl
    | some t => exact ih t
def zeroS : St17 := ⟨0, 0, 0, []⟩
theorem fold_take_none {R : List Rec17} {k : Nat} (h : foldS zeroS (R.take k) = none) : foldS zeroS R = none := by
  rw [← List.take_append_drop k R, foldS_append, h]
  rfl
theorem fold_take_succ {R : List Rec17} {k : Nat} {s : St17} (hk : k < R.length) (h : foldS zeroS (R.take k) = some s) : foldS zeroS (R.take (k + 1)) = fol s R[k] := by
  rw [List.take_add_one, List.getElem?_eq_getElem hk, Option.toList_some, foldS_append, h]
  show foldS s [R[k]] = _
  rw [foldS_cons]
  cases fol s R[k] <;> rfl
/-- How Fold ends: the state, or a zero one. -/
def FoldEnd (R : List Rec17) (w : World) (e : Ending) (w' : World) : Prop := Below w.heap.size w w' ∧ ((foldS zeroS R = none ∧ e = .returned (.tuple #[.agg #[.int .i64 0, .int .i64 0, .int .i64 0, .slice none 0 0], .bool false])) ∨ ∃ s a c, foldS zeroS R = some s ∧ e = .returned (.tuple #[.agg #[.int .i64 s.vw, .int .i64 s.nm, .int .i64 s.cm, .slice a s.log.length c], .bool true]) ∧ w'.ownsRow (w.heap.size + 1) 109 2 (.slice a s.log.length c) s.log.length (cellsE s.log))
theorem load_st {w : World} {b : Nat} {x0 x1 x2 x3 : Value} (h : w.heap[b]? = some (.cells #[x0, x1, x2, x3] 64 (0, 0))) : (loadVar 64 ⟨b, 0, none⟩).run Try.prog w = .ok (.agg #[x0, x1, x2, x3]) w := by
  simp [loadVar, go_sem, Lib.cell_of_heap h]
theorem ret_mix {fn : Func} {t u : Tmp} {ty : TypeId} (h : fn.results = #[.cell t ty, .tmp u]) (tmps : Array Value) (P : Program) (w : World) (a : Addr) (v : Value) (ha : tmps[t]?.getD undef = .pointer (some a)) (hl : (loadVar ty a).run P w = .ok v w) :
    (results fn tmps).run P w = .ok (.tuple #[v, tmps[u]?.getD undef]) w := by
  simp [results, h, ha, asAddr, hl]
theorem ret_box2 {P : Program} {fn : Func} {R : Ending → World → Prop} {a : Act} {t u : Tmp} {T : TypeId} {W : World} {b : Nat} {v z : Value} (h : fn.results = #[.cell t T, .tmp u]) (ha : a.tmps[t]?.getD undef = .pointer (some ⟨b, 0, none⟩)) (hd : a.defers = []) (hu : a.tmps[u]?.getD undef = z) (hl : (loadVar T ⟨b, 0, none⟩).run P W = .ok v W) (hR : R (.returned (.tuple #[v, z])) W) : bodyPost P fn R .ret a W :=
  bodyPost_ret (by rw [ret_mix h _ _ _ _ _ ha hl, hu]) hd hR
set_option maxRecDepth 100000 in
set_option maxHeartbeats 1000000 in
theorem fold_any17 (a : Option Addr) (n c : Nat) (R : List Rec17) (w : World) (hn : R.length = n) (hN : RsAt17 w.cell? a R) (hm : n ≤ 9000000000000) : Calls Try.prog 29 #[.slice a n c] w (FoldEnd R w) := by
  obtain ⟨W1, hW1⟩ : ∃ W, W = (w.alloc (.cells #[.int .i64 0, .int .i64 0, .int .i64 0, .slice none 0 0] 64)).alloc (.cells #[.int .i64 0, .int .i64 0, .int .i64 0, .slice none 0 0] 64) := ⟨_, rfl⟩
  have hz1 : W1.heap.size = w.heap.size + 2 := by rw [hW1]; simp
  have hb1 : Below w.heap.size w W1 := by rw [hW1]; exact (two_boxes _ _ _ _ _).2
  have hB1 : W1.heap[w.heap.size + 1]? = some (.cells #[.int .i64 0, .int .i64 0, .int .i64 0, .slice none 0 0] 64 (0, 0)) := by rw [hW1]; exact (two_boxes _ _ _ _ _).1
  have hR1 : W1.heap[w.heap.size]? = some (.cells #[.int .i64 0, .int .i64 0, .int .i64 0, .slice none 0 0] 64 (0, 0)) := by rw [hW1, Below.heap_alloc _ _ _ (by simp)]; exact heap_alloc_new w _
  have hS1 : SAt W1 (w.heap.size + 1) (w.heap.size + 1) zeroS (.slice none 0 0) := ⟨hB1, World.ownsRow_nil _ _ _ _⟩
  have HN := hid hn
  have HZ := hid hN
  clear hn hN
  go_enter Try.func29, Try.ntmps29
  go_wp2_with fail
  rw [← hW1]
  clear hW1
  go_loopw [9] (fun iv wr => ∃ (k : Nat) (s : St17) (v : Value), iv = .int .i64 k ∧ k ≤ n ∧ Hid (foldS zeroS (R.take k) = some s) ∧ Hid (s.log.length ≤ 2048 ∧ SAt wr (w.heap.size + 1) (w.heap.size + 1) s v ∧ SStep (w.heap.size + 1) W1 (.slice none 0 0) wr v)) (fun iv _ => n - (intOf iv).toNat)
  case atStart => exact ⟨0, zeroS, _, rfl, Nat.zero_le _, hid (by rw [List.take_zero]; rfl), hid ⟨by decide, hS1, SStep.refl _ _ _⟩⟩
  case round =>
    obtain ⟨k, s, v, rfl, hk, HF, HS⟩ := hrel
    have hbr : Below w.heap.size w wr := HS.out.2.2.bel hb1 (by omega) (fun k e => by cases e)
    have keep : ∀ {w9 : World} {v9 : Value}, SStep (w.heap.size + 1) W1 (.slice none 0 0) w9 v9 → w9.heap[w.heap.size]? = some (.cells #[.int .i64 0, .int .i64 0, .int .i64 0, .slice none 0 0] 64 (0, 0)) := fun h => (h.1.block _ (by omega) (fun e => by
      rcases e with e | e
      · omega
      · cases e)).trans hR1
    by_cases hlt : k < n
    · have hkl : k < R.length := by rw [HN.out]; exact hlt
      obtain ⟨zb, zo, e1, y0, y1, y2, y3, la, lc, y4, hI⟩ := HZ.out.get hkl
      have z0 := below_keep hbr _ _ y0
      have z1 := below_keep hbr _ _ y1
      have z2 := below_keep hbr _ _ y2
      have z3 := below_keep hbr _ _ y3
      have z4 := below_keep hbr _ _ y4
      clear y0 y1 y2 y3 y4
      subst e1
      have hnext := fold_take_succ hkl HF.out
      have hnone : fol s R[k] = none → foldS zeroS R = none := fun h => fold_take_none (k := k + 1) (by rw [hnext]; exact h)
      obtain ⟨W2, hW2⟩ : ∃ W, W = wr.alloc (.cells #[.int .i64 R[k].kd, .int .i64 R[k].vw, .int .i64 R[k].nm, .int .i64 R[k].op, .slice la R[k].log.length lc] 50) := ⟨_, rfl⟩
      have hb2 : Below wr.heap.size wr W2 := by rw [hW2]; exact (Below.refl _ wr).alloc (Nat.le_refl _) _
      have hC := follow_any17 w (w.heap.size + 1) (w.heap.size + 1) s v R[k] la R[k].log.length lc W2 (HS.out.2.1.below hb2) HS.out.1 hI (hbr.trans (hb2.mono hbr.size)) (by omega) (by omega) (by have := HS.out.2.2.1.size; have := hb2.size; omega)
      have hst : ∀ w9 v9, SStep (w.heap.size + 1) W2 v w9 v9 → SStep (w.heap.size + 1) W1 (.slice none 0 0) w9 v9 := fun w9 v9 h => (HS.out.2.2.trans (SStep.below hb2)).trans h
      have HL := hid fun t (h : fol s R[k] = some t) => fol_len h HS.out.1
      have HX := hid hnext
      have HO := hid hnone
      clear hnext hnone hI HZ HF
      generalize fol s R[k] = o at *
      generalize R[k].kd = kd at *
      generalize R[k].vw = vw at *
      generalize R[k].nm = nm at *
      generalize R[k].op = op at *
      generalize R[k].log.length = ll at *
      generalize hP : R.take (k + 1) = P at *
      have HP := hid hP
      clear hP HS
      cases o with
      | none =>
        go_wp2_with fail
        rw [← hW2]
        clear hW2
        refine hC.mono ?_
        rintro e w3 (⟨_, rfl, v', h3⟩ | ⟨t, _, h, _⟩)
        · have hS3 := hst _ _ h3
          have b3 := keep hS3
          have hB3 : Below w.heap.size w w3 := hS3.bel hb1 (by omega) (fun k e => by cases e)
          have r0 : w3.cell? ⟨w.heap.size, 0, none⟩ = some (.int .i64 0) := by rw [Lib.cell_of_heap b3]; rfl
          have r1 : w3.cell? ⟨w.heap.size, 1, none⟩ = some (.int .i64 0) := by rw [Lib.cell_of_heap b3]; rfl
          have r2 : w3.cell? ⟨w.heap.size, 2, none⟩ = some (.int .i64 0) := by rw [Lib.cell_of_heap b3]; rfl
          have r3 : w3.cell? ⟨w.heap.size, 3, none⟩ = some (.slice none 0 0) := by rw [Lib.cell_of_heap b3]; rfl
          have f0 := Lib.frozen_of_heap b3 0
          have f1 := Lib.frozen_of_heap b3 1
          have f2 := Lib.frozen_of_heap b3 2
          have f3 := Lib.frozen_of_heap b3 3
          have fin : FoldEnd R w (.returned (.tuple #[.agg #[.int .i64 0, .int .i64 0, .int .i64 0, .slice none 0 0], .bool false])) (setN w3 w.heap.size 0 [.int .i64 0, .int .i64 0, .int .i64 0, .slice none 0 0]) := ⟨setN_below _ _ hB3 (Nat.le_refl _) (Nat.le_refl _), .inl ⟨HO.out (by trivial), rfl⟩⟩
          have hset := setN_all [.int .i64 0, .int .i64 0, .int .i64 0, .slice none 0 0] b3 rfl
          clear hC keep hst hS3 b3 hB3 h3
          go_wp2_with fail
          exact ret_box2 rfl rfl rfl rfl (load_st hset) fin
        · cases h
      | some t =>
        go_wp2_with fail
        rw [← hW2]
        clear hW2
        refine hC.mono ?_
        rintro e w3 (⟨h, _⟩ | ⟨t', v', h, rfl, h3, h4⟩)
        · cases h
        · injection h with h
          subst h
          have hS3 := hst _ _ h4
          have HA := hid (show t.log.length ≤ 2048 ∧ SAt w3 (w.heap.size + 1) (w.heap.size + 1) t v' ∧ SStep (w.heap.size + 1) W1 (.slice none 0 0) w3 v' from ⟨HL.out t (by trivial), h3, hS3⟩)
          clear hC keep hst hS3 h3 h4
          go_wp2_with fail
          exact ⟨⟨k + 1, t, v', by go_num, by omega, by rw [HP.out]; exact HX, HA⟩, by simp [intOf]; omega⟩
    · have e : R.take k = R := List.take_of_length_le (by rw [HN.out]; omega)
      have HE := hid HF.out
      rw [e] at HE
      obtain ⟨_, h3, h4⟩ := HS.out
      have b3 := keep h4
      obtain ⟨va, vc, rfl, _, _, _⟩ := row_form h3.row
      obtain ⟨c0, c1, c2, c3, _⟩ := h3.c
      have r0 : wr.cell? ⟨w.heap.size, 0, none⟩ = some (.int .i64 0) := by rw [Lib.cell_of_heap b3]; rfl
      have r1 : wr.cell? ⟨w.heap.size, 1, none⟩ = some (.int .i64 0) := by rw [Lib.cell_of_heap b3]; rfl
      have r2 : wr.cell? ⟨w.heap.size, 2, none⟩ = some (.int .i64 0) := by rw [Lib.cell_of_heap b3]; rfl
      have r3 : wr.cell? ⟨w.heap.size, 3, none⟩ = some (.slice none 0 0) := by rw [Lib.cell_of_heap b3]; rfl
      have f0 := Lib.frozen_of_heap b3 0
      have f1 := Lib.frozen_of_heap b3 1
      have f2 := Lib.frozen_of_heap b3 2
      have f3 := Lib.frozen_of_heap b3 3
      have fin : FoldEnd R w (.returned (.tuple #[.agg #[.int .i64 s.vw, .int .i64 s.nm, .int .i64 s.cm, .slice va s.log.length vc], .bool true])) (setN wr w.heap.size 0 [.int .i64 s.vw, .int .i64 s.nm, .int .i64 s.cm, .slice va s.log.length vc]) := ⟨setN_below _ _ hbr (Nat.le_refl _) (Nat.le_refl _), .inr ⟨s, va, vc, HE.out, rfl, row_chg4 h3.row (setN_chg _ _ _) fun g e q => by have := (row_lt4 h3.row g e).1; omega⟩⟩
      have hset := setN_all [.int .i64 s.vw, .int .i64 s.nm, .int .i64 s.cm, .slice va s.log.length vc] b3 rfl
      clear keep h3 h4 b3 HS HF hbr
      generalize s.log.length = sl at *
      go_wp2_with fail
      exact ret_box2 rfl rfl rfl rfl (load_st hset) fin
end Go.Proofs.Ytmaecpmdikdclaa
