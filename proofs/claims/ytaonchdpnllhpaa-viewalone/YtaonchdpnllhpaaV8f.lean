/- Layer 18: a turn: relog. -/
import Derived.Test.YtaonchdpnllhpaaV8e
import Derived.Test.YtaonchdpnllhpaaMF
namespace Go.Proofs.Ytaonchdpnllhpaa
open Go.RowKit
theorem below_keep18 {w w' : World} (hb : Below w.heap.size w w') : ∀ a v, w.cell? a = some v → w'.cell? a = some v := fun a v h => by
  rw [hb.cell (p := a) (World.block_lt_of_cell? _ _ h)]; exact h
/-- How a copy of a list ends: a row of its own with the same cells. -/
def CopyEnd18 (e : TypeId) (size n : Nat) (xs : List Value) (w : World) (x : Ending) (w' : World) : Prop := (∃ v, x = .returned v ∧ w'.ownsRow w.heap.size e size v n xs) ∧ Below w.heap.size w w'
set_option maxRecDepth 100000 in
set_option maxHeartbeats 1000000 in
theorem clone18_any (a : Option Addr) (n c : Nat) (xs : List Value) (w : World) (hy : Lies w (.slice a n c) n xs) (hl : xs.length = n * 2) (h1 : ∀ u ∈ xs, u.oneCell' = true) (hn : n ≤ 65536) : Calls Try.prog 26 #[.slice a n c] w (CopyEnd18 56 2 n xs w) := by
  cases a with
  | none =>
    have h0 : n = 0 ∧ xs = [] := by
      rcases hy with ⟨c', e, rfl, rfl⟩ | ⟨ad, c', e, _⟩
      · exact ⟨rfl, rfl⟩
      · cases e
    obtain ⟨rfl, rfl⟩ := h0
    have he : ∀ w : World, (binOp .eql 27 (.slice none 0 c) (.slice none 0 0)).run Try.prog w = .ok (.bool true) w := fun _ => rfl
    go_enter Try.func26, Try.ntmps26
    go_wp2_with fail
    go_ret
    exact ⟨⟨_, rfl, ⟨rfl, .inl ⟨rfl, rfl⟩⟩⟩, Below.refl _ _⟩
  | some a =>
    have he : ∀ w : World, (binOp .eql 27 (.slice (some a) n c) (.slice none 0 0)).run Try.prog w = .ok (.bool false) w := fun _ => rfl
    have hrow := row_lit0 w 56 2 w.heap.size (Nat.le_refl _)
    have hb1 : Below w.heap.size w (w.alloc (.cells #[] 56)) := (Below.refl _ w).alloc (Nat.le_refl _) _
    have hy1 := hy.keep (below_keep18 hb1)
    go_enter Try.func26, Try.ntmps26
    go_wp2_with (at_builtin; go_loud (refine wpList_appN _ rfl _ _ _ rfl elemN_ent w.heap.size _ 0 [] rfl hrow _ rfl n xs hy1 hl h1 (by unfold maxLen; omega) (by omega) hb1.size ?_); intro v' w6 hr6 hs6)
    go_ret
    exact ⟨⟨v', rfl, by simpa using hr6⟩, hb1.trans (hs6.below hb1.size fun j h => by cases h; exact Nat.le_refl _)⟩
theorem rows_apart18 {w : World} {b1 b2 n1 n2 s1 s2 : Nat} {e1 e2 : TypeId} {v1 v2 : Value} {x1 x2 : List Value} (h : w.ownsRow b1 e1 s1 v1 n1 x1) (k : w.ownsRow b2 e2 s2 v2 n2 x2) (hne : e1 ≠ e2) : ∀ g, v1.ownBlock = some g → v2.ownBlock ≠ some g := fun g hg => by
  rcases h.2 with ⟨rfl, -⟩ | ⟨g1, cap, cur, rfl, -, hh, -⟩
  · cases hg
  · have e3 : g1 = g := by injection hg
    subst e3
    exact row_apart18 k hh fun e => hne e.symm
theorem row_chg18 {w w' : World} {base n size : Nat} {e : TypeId} {v : Value} {xs : List Value} {S : Nat → Prop} (h : w.ownsRow base e size v n xs) (hc : Chg w w' S) (hS : ∀ g, v.ownBlock = some g → ¬ S g) : w'.ownsRow base e size v n xs := by
  refine ⟨h.1, ?_⟩
  rcases h.2 with h2 | ⟨g, cap, cur, rfl, hg, hh, r⟩
  · exact .inl h2
  · exact .inr ⟨g, cap, cur, rfl, hg, by rw [hc.block g (Array.getElem?_eq_some_iff.1 hh).1 (hS g rfl)]; exact hh, r⟩
/-- One record is put to Save. -/
theorem save_one18 {tb pb base m : Nat} {a0 : Option Addr} {ac : Nat} {x : Pt} {lv nv sv dv mv r0 r1 r2 r3 r4 : Value} {xs : List Value} (w : World) (hP : PtAt pb x lv sv dv mv w) (h : TnAt tb pb (.slice a0 m ac) nv w) (hr : w.ownsRow base 85 5 (.slice a0 m ac) m xs) (hb : base ≤ w.heap.size) (hm : m ≤ 900000) (h1 : ∀ u ∈ [r0, r1, r2, r3, r4], u.oneCell' = true) (W1 : World) (hW : W1 = w.alloc (Obj.cells #[r0, r1, r2, r3, r4] 85)) :
    Calls Try.prog 46 #[.pointer (some ⟨tb, 0, none⟩), .slice (some ⟨w.heap.size, 0, none⟩) 1 1] W1 (fun e w' => e = .returned (.tuple #[]) ∧ SaveYes tb pb base x lv sv dv mv (.slice a0 m ac) (m + 1) (xs ++ [r0, r1, r2, r3, r4]) nv w w') := by
  have hbl : Below w.heap.size w W1 := by rw [hW]; exact (Below.refl _ w).alloc (Nat.le_refl _) _
  have t1 := h.below hbl
  have q1 := hP.below hbl
  have k1 := row_below2 hr hbl
  have hg : W1.heap[w.heap.size]? = some (.cells #[r0, r1, r2, r3, r4] 85 (0, 0)) := by rw [hW]; exact heap_alloc_new _ _
  exact (save_any18 (news := [r0, r1, r2, r3, r4]) W1 t1 k1 (row_apart18 k1 t1 (by decide)) (Nat.le_trans hb hbl.size) (.inr ⟨⟨w.heap.size, 0, none⟩, 1, rfl, World.news_of_block hg⟩) rfl h1 (by omega)).mono fun e w' hS => ⟨hS.1, saveYes_of t1 q1 ⟨_, _, k1⟩ (Chg.of_below hbl) hS rfl⟩
/-- The log was written anew, with one record of it. -/
def RelogYes (tb pb base bl : Nat) (x : Pt) (sv dv mv s0 l0 : Value) (m n k : Nat) (xs ls es : List Value) (st : Nat) (nv : Value) (w w' : World) : Prop := ∃ a cc a2 c2 a3 c3, Hid (w'.ownsRow base 85 5 (.slice a m cc) m (xs ++ [.int .i64 2, .int .i64 0, .int .i64 0, .int .i64 st, .slice a3 k c3]) ∧ w'.ownsRow w.heap.size 56 2 (.slice a3 k c3) k es ∧ w'.ownsRow bl 56 2 (.slice a2 n c2) n ls ∧ TnAt tb pb (.slice a m cc) nv w' ∧ PtAt pb x (.slice a2 n c2) sv dv mv w' ∧ Chg w w' (fun k => k = tb ∨ k = pb ∨ s0.ownBlock = some k ∨ l0.ownBlock = some k) ∧ ((Value.slice a m cc).ownBlock = s0.ownBlock ∨ ∃ g, (Value.slice a m cc).ownBlock = some g ∧ w.heap.size ≤ g) ∧ ((Value.slice a2 n c2).ownBlock = l0.ownBlock ∨ ∃ g, (Value.slice a2 n c2).ownBlock = some g ∧ w.heap.size ≤ g) ∧ ∀ q, (Value.slice a3 k c3).ownBlock = some q → (Value.slice a2 n c2).ownBlock ≠ some q)
/-- Ahead of the new log: Save has its record. -/
structure RM (tb pb base bl : Nat) (x : Pt) (la : Option Addr) (ln lc : Nat) (sv dv mv s0 s5 v1 : Value) (m k : Nat) (xs ls es : List Value) (nv : Value) (w W : World) : Prop where
  t : TnAt tb pb s5 nv W
  p : PtAt pb x (.slice la ln lc) sv dv mv W
  r : W.ownsRow base 85 5 s5 m xs
  l : W.ownsRow bl 56 2 (.slice la ln lc) ln ls
  c : W.ownsRow w.heap.size 56 2 v1 k es
  g : Chg w W (fun k => k = tb ∨ k = pb ∨ s0.ownBlock = some k)
  n : s5.ownBlock = s0.ownBlock ∨ ∃ g, s5.ownBlock = some g ∧ w.heap.size ≤ g
  q : ∀ q, v1.ownBlock = some q → (Value.slice la ln lc).ownBlock ≠ some q
theorem RM.below {tb pb base bl : Nat} {x : Pt} {la : Option Addr} {ln lc : Nat} {sv dv mv s0 s5 v1 : Value} {m k : Nat} {xs ls es : List Value} {nv : Value} {w W W' : World} (h : RM tb pb base bl x la ln lc sv dv mv s0 s5 v1 m k xs ls es nv w W) (hb : Below W.heap.size W W') : RM tb pb base bl x la ln lc sv dv mv s0 s5 v1 m k xs ls es nv w W' :=
  ⟨h.t.below hb, h.p.below hb, row_below2 h.r hb, row_below2 h.l hb, row_below2 h.c hb, h.g.trans (Chg.of_below hb (S := fun _ => False)) fun _ _ f => f.elim, h.n, h.q⟩
theorem own_cut18 (la : Option Addr) (a b c : Nat) : (Value.slice la a c).ownBlock = (Value.slice la b c).ownBlock := by cases la <;> rfl
theorem RM.made {tb pb base bl : Nat} {x : Pt} {la a3 : Option Addr} {ln lc c3 : Nat} {sv dv mv s0 : Value} {m k : Nat} {xs ls es ys : List Value} {nv : Value} {w W1 W5 : World} (hP : PtAt pb x (.slice la ln lc) sv dv mv w) (h : TnAt tb pb s0 nv w) (hr : w.ownsRow base 85 5 s0 m ys) (hL : w.ownsRow bl 56 2 (.slice la ln lc) ln ls) (b1 : Below w.heap.size w W1) (r1 : W1.ownsRow w.heap.size 56 2 (.slice a3 k c3) k es) (hS : SaveYes tb pb base x (.slice la ln lc) sv dv mv s0 (m + 1) xs nv W1 W5) : ∃ a cc, RM tb pb base bl x la ln lc sv dv mv s0 (.slice a (m + 1) cc) (.slice a3 k c3) (m + 1) k xs ls es nv w W5 := by
  obtain ⟨a, cc, ⟨r5, t5, p5, C5, n5⟩⟩ := hS
  have tl := (Array.getElem?_eq_some_iff.1 h).1
  have pl := (Array.getElem?_eq_some_iff.1 hP).1
  refine ⟨a, cc, t5, p5, r5, ?_, ?_, ?_, ?_, ?_⟩
  · refine row_chg18 (row_below2 hL b1) C5 fun g hg hs => ?_
    rcases hs with rfl | rfl | hs
    · exact row_apart18 hL h (by decide) hg
    · exact row_apart18 hL hP (by decide) hg
    · exact rows_apart18 hL hr (by decide) g hg hs
  · refine row_chg18 r1 C5 fun g hg hs => ?_
    have h1 := (World.ownsRow.lt r1 g hg).1
    rcases hs with rfl | rfl | hs
    · omega
    · omega
    · have := (World.ownsRow.lt hr g hs).2
      omega
  · exact (Chg.of_below b1 (S := fun _ => False)).mono (fun _ _ f => f.elim) |>.trans C5 fun _ _ e => e
  · rcases n5 with e | ⟨g, e, hg⟩
    · exact .inl e
    · exact .inr ⟨g, e, Nat.le_trans b1.size hg⟩
  · intro q hq e
    have h1 := (World.ownsRow.lt r1 q hq).1
    have h2 := (World.ownsRow.lt hL q e).2
    omega
theorem RM.done {tb pb base bl st : Nat} {x : Pt} {la a3 a a2 : Option Addr} {ln lc c3 cc c2 n : Nat} {sv dv mv s0 : Value} {m k : Nat} {xs ls es ys : List Value} {nv : Value} {w W W6 : World} (h : RM tb pb base bl x la ln lc sv dv mv s0 (.slice a m cc) (.slice a3 k c3) m k (xs ++ [.int .i64 2, .int .i64 0, .int .i64 0, .int .i64 st, .slice a3 k c3]) ls es nv w W) (r6 : W6.ownsRow bl 56 2 (.slice a2 n c2) n ys) (s6 : Step W (.slice la st lc) W6 (.slice a2 n c2)) :
    (W6.cell? ⟨tb, 0, none⟩ = some (.pointer (some ⟨pb, 0, none⟩)) ∧ W6.cell? ⟨pb, 3, none⟩ = some (.slice la ln lc) ∧ W6.frozen? ⟨pb, 3, none⟩ = false ∧ tb < W6.heap.size ∧ pb < W6.heap.size) ∧ RelogYes tb pb base bl x sv dv mv s0 (.slice la ln lc) m n k xs ys es st nv w (W6.setCell ⟨pb, 3, none⟩ (.slice a2 n c2)) := by
  have hob := own_cut18 la st ln lc
  have hs6 := s6.1
  have hn6 := s6.2
  rw [hob] at hs6 hn6
  have tl := (Array.getElem?_eq_some_iff.1 h.t).1
  have pl := (Array.getElem?_eq_some_iff.1 h.p).1
  have t6 : TnAt tb pb (.slice a m cc) nv W6 := (hs6.block tb tl fun e => row_apart18 h.l h.t (by decide) e.symm).trans h.t
  have p6 : PtAt pb x (.slice la ln lc) sv dv mv W6 := (hs6.block pb pl fun e => row_apart18 h.l h.p (by decide) e.symm).trans h.p
  have htp := tp_apart18 t6 p6
  have R6 := row_chg18 h.r (Chg.of_grown hs6) fun g hg e => rows_apart18 h.r h.l (by decide) g hg e
  have C6 := row_chg18 h.c (Chg.of_grown hs6) fun g hg e => h.q g hg e
  obtain ⟨⟨c0, -⟩, tl6, -⟩ := t6.rd
  obtain ⟨⟨-, -, -, c3', -⟩, -, pl6, pf6⟩ := p6.rd
  refine ⟨⟨c0, c3', pf6 3, tl6, pl6⟩, a, cc, a2, c2, a3, c3, hid ⟨?_, ?_, ?_, ?_, ?_, ?_, h.n, ?_, ?_⟩⟩
  · exact row_keep18 R6 (row_apart18 R6 p6 (by decide)) _
  · exact row_keep18 C6 (row_apart18 C6 p6 (by decide)) _
  · exact row_keep18 r6 (row_apart18 r6 p6 (by decide)) _
  · exact (heap_setCell_other _ _ _ _ htp).trans t6
  · exact heap_setCell_same _ _ _ _ _ _ p6
  · exact ((h.g.mono fun i _ e => e.elim .inl fun e => .inr (e.elim .inl fun e => .inr (.inl e))).trans ((Chg.of_grown hs6).mono fun i _ e => .inr (.inr (.inr e))) fun _ _ e => e).trans ((Chg.setCell _ _ _).mono fun i _ e => .inr (.inl e)) fun _ _ e => e
  · rcases hn6 with e | ⟨g, e, hg⟩
    · exact .inl e
    · exact .inr ⟨g, e, Nat.le_trans h.g.size hg⟩
  · intro q hq e
    rcases hn6 with e2 | ⟨g, e2, hg⟩
    · exact h.q q hq (e2 ▸ e)
    · have h1 := (World.ownsRow.lt h.c q hq).2
      rw [e2] at e
      injection e with e
      omega
end Go.Proofs.Ytaonchdpnllhpaa
