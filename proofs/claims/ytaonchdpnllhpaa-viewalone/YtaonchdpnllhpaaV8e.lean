/- Layer 18: a turn: rise. -/
import Derived.Test.YtaonchdpnllhpaaV8d
namespace Go.Proofs.Ytaonchdpnllhpaa
open Go.RowKit
theorem row_apart18 {w : World} {base n size b : Nat} {e e' : TypeId} {v : Value} {xs : List Value} {cs : Array Value} (h : w.ownsRow base e size v n xs) (hb : w.heap[b]? = some (.cells cs e' (0, 0))) (hne : e ≠ e') : v.ownBlock ≠ some b := by
  rcases h.2 with ⟨rfl, -⟩ | ⟨g, cap, cur, rfl, hg, hh, r⟩
  · intro e2; cases e2
  · intro e2
    have e3 : g = b := by injection e2
    subst e3
    rw [hh] at hb
    cases hb
    exact hne rfl
theorem row_keep18 {w : World} {base n size b o : Nat} {e : TypeId} {v : Value} {xs : List Value} (h : w.ownsRow base e size v n xs) (hb : v.ownBlock ≠ some b) (u : Value) : (w.setCell ⟨b, o, none⟩ u).ownsRow base e size v n xs := by
  refine ⟨h.1, ?_⟩
  rcases h.2 with h2 | ⟨g, cap, cur, rfl, hg, hh, r⟩
  · exact .inl h2
  · exact .inr ⟨g, cap, cur, rfl, hg, by rw [Below.heap_setCell _ _ _ _ (fun e2 => hb (by have e3 : g = b := e2; rw [e3]; rfl))]; exact hh, r⟩
theorem tp_apart18 {tb pb : Nat} {a b lv sv dv mv : Value} {x : Pt} {W : World} (h : TnAt tb pb a b W) (hP : PtAt pb x lv sv dv mv W) : tb ≠ pb := fun e => by
  unfold TnAt at h
  unfold PtAt at hP
  rw [e, hP] at h
  injection h with h
  injection h with h
  exact absurd (congrArg Array.size h) (by decide : (13 : Nat) ≠ 3)
/-- A record was put to Save, and the part became another. -/
def SaveYes (tb pb base : Nat) (x : Pt) (lv sv dv mv : Value) (s0 : Value) (m : Nat) (xs : List Value) (nv : Value) (w w' : World) : Prop := ∃ a cc, Hid (w'.ownsRow base 85 5 (.slice a m cc) m xs ∧ TnAt tb pb (.slice a m cc) nv w' ∧ PtAt pb x lv sv dv mv w' ∧ Chg w w' (fun k => k = tb ∨ k = pb ∨ s0.ownBlock = some k) ∧ ((Value.slice a m cc).ownBlock = s0.ownBlock ∨ ∃ g, (Value.slice a m cc).ownBlock = some g ∧ w.heap.size ≤ g))
theorem saveYes_of {tb pb base m k : Nat} {x : Pt} {lv sv dv mv s0 nv : Value} {xs : List Value} {w W1 w' : World} {e : Ending} (h1 : TnAt tb pb s0 nv W1) (hP : PtAt pb x lv sv dv mv W1) (hr : ∃ n' xs', W1.ownsRow base 85 5 s0 n' xs') (hC : Chg w W1 (fun k => k = tb ∨ k = pb ∨ s0.ownBlock = some k)) (hS : SaveEnd tb base s0 m xs W1 e w') (hk : k = m) : SaveYes tb pb base x lv sv dv mv s0 k xs nv w w' := by
  subst hk
  obtain ⟨-, a, c, W5, ⟨rfl, r5, s5⟩⟩ := hS
  obtain ⟨n', xs', hr⟩ := hr
  have n1 := row_apart18 hr h1 (by decide)
  have n2 := row_apart18 hr hP (by decide)
  have htp := tp_apart18 h1 hP
  have tl := (Array.getElem?_eq_some_iff.1 h1).1
  have pl := (Array.getElem?_eq_some_iff.1 hP).1
  have t5 : TnAt tb pb s0 nv W5 := (s5.1.block tb tl fun e => n1 e.symm).trans h1
  have p5 : PtAt pb x lv sv dv mv W5 := (s5.1.block pb pl fun e => n2 e.symm).trans hP
  refine ⟨a, c, hid ⟨row_keep18 r5 (row_apart18 r5 t5 (by decide)) _, ?_, ?_, ?_, ?_⟩⟩
  · exact heap_setCell_same _ _ _ _ _ _ t5
  · exact (heap_setCell_other _ _ _ _ (fun e => htp e.symm)).trans p5
  · exact (hC.trans ((Chg.of_grown s5.1).mono fun i hi h => .inr (.inr h)) fun i hi h => h).trans ((Chg.setCell _ _ _).mono fun i hi h => .inl h) fun i hi h => h
  · rcases s5.2 with h | ⟨g, h, hg⟩
    · exact .inl h
    · exact .inr ⟨g, h, Nat.le_trans hC.size hg⟩
set_option maxRecDepth 100000 in
theorem rise_any18 {tb pb base m ln lc c : Nat} {a0 la : Option Addr} {ac : Nat} {x : Pt} {nv sv dv mv : Value} {xs : List Value} (w : World) (hP : PtAt pb x (.slice la ln lc) sv dv mv w) (h : TnAt tb pb (.slice a0 m ac) nv w) (hr : w.ownsRow base 85 5 (.slice a0 m ac) m xs) (hb : base ≤ w.heap.size) (hm : m ≤ 900000) :
    Calls Try.prog 35 #[.pointer (some ⟨tb, 0, none⟩), .int .i64 c] w (fun e w' => e = .returned (.tuple #[]) ∧ ((min (c : Int) ln ≤ x.cm ∧ w' = w) ∨ (x.cm < min (c : Int) ln ∧ SaveYes tb pb base { x with cm := min (c : Int) ln } (.slice la ln lc) sv dv mv (.slice a0 m ac) (m + 1) (xs ++ [.int .i64 3, .int .i64 0, .int .i64 0, .int .i64 (min (c : Int) ln), .slice none 0 0]) nv w w'))) := by
  obtain ⟨⟨c0, c1, -⟩, tl, tf⟩ := h.rd
  obtain ⟨⟨-, -, p2, p3, -⟩, -, pl, pf⟩ := hP.rd
  have pf2 := pf 2
  have HS : Hid (∀ W1, W1 = (w.setCell ⟨pb, 2, none⟩ (.int .i64 (min (c : Int) ln))).alloc (Obj.cells #[.int .i64 3, .int .i64 0, .int .i64 0, .int .i64 (min (c : Int) ln), .slice none 0 0] 85) → Calls Try.prog 46 #[.pointer (some ⟨tb, 0, none⟩), .slice (some ⟨w.heap.size, 0, none⟩) 1 1] W1 (fun e w' => e = .returned (.tuple #[]) ∧ SaveYes tb pb base { x with cm := min (c : Int) ln } (.slice la ln lc) sv dv mv (.slice a0 m ac) (m + 1) (xs ++ [.int .i64 3, .int .i64 0, .int .i64 0, .int .i64 (min (c : Int) ln), .slice none 0 0]) nv w w')) := hid fun W1 hW => by
    have n1 := row_apart18 hr h (by decide)
    have n2 := row_apart18 hr hP (by decide)
    have htp := tp_apart18 h hP
    have hsz : (w.setCell ⟨pb, 2, none⟩ (.int .i64 (min (c : Int) ln))).heap.size = w.heap.size := by simp [World.setCell]
    have t1 : TnAt tb pb (.slice a0 m ac) nv W1 := by rw [hW]; exact (Below.heap_alloc _ _ _ (by omega)).trans ((heap_setCell_other _ _ _ _ htp).trans h)
    have q1 : PtAt pb { x with cm := min (c : Int) ln } (.slice la ln lc) sv dv mv W1 := by rw [hW]; exact (Below.heap_alloc _ _ _ (by omega)).trans (heap_setCell_same _ _ _ _ _ _ hP)
    have r1 : W1.ownsRow base 85 5 (.slice a0 m ac) m xs := by rw [hW]; exact World.ownsRow.alloc (row_keep18 hr n2 _) _
    have hg : W1.heap[w.heap.size]? = some (.cells #[.int .i64 3, .int .i64 0, .int .i64 0, .int .i64 (min (c : Int) ln), .slice none 0 0] 85 (0, 0)) := by rw [hW, ← hsz]; exact heap_alloc_new _ _
    have hC : Chg w W1 (fun k => k = tb ∨ k = pb ∨ (Value.slice a0 m ac).ownBlock = some k) := by
      rw [hW]
      exact ((Chg.setCell _ _ _).mono fun i hi h => .inr (.inl h)).trans (Chg.alloc _ _ _) fun i hi h => h
    have hbs : base ≤ W1.heap.size := Nat.le_trans hb hC.size
    refine (save_any18 (news := [.int .i64 3, .int .i64 0, .int .i64 0, .int .i64 (min (c : Int) ln), .slice none 0 0]) W1 t1 r1 n1 hbs (.inr ⟨⟨w.heap.size, 0, none⟩, 1, rfl, World.news_of_block hg⟩) rfl (by intro u hu; simp at hu; rcases hu with rfl | rfl | rfl | rfl | rfl <;> rfl) (by omega)).mono fun e w' hS => ⟨hS.1, saveYes_of t1 q1 ⟨_, _, r1⟩ hC hS rfl⟩
  clear pf tf h hP hr
  generalize x.cm = cm at *
  go_enter Try.func35, Try.ntmps35
  go_wp2_with (first
    | (go_at_call 46; refine (HS.out _ rfl).mono ?_; clear HS; rintro e W5 ⟨rfl, h5⟩)
    | fail)
  · rename_i hlt
    go_end0
    exact ⟨rfl, .inr ⟨hlt, h5⟩⟩
  · rename_i hle
    go_end0
    exact ⟨rfl, .inl ⟨hle, rfl⟩⟩
end Go.Proofs.Ytaonchdpnllhpaa
