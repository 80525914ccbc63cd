/- A loop over an iterator that keeps its place in one cell of its own: what the iterator owes, what the loop's body owes, and what then holds. What strings.SplitSeq hands on at a blank. -/
import Derived.RangeFuncWrites
import Derived.Shelf.Abstract
import Derived.WalkKit
import Derived.RangeFuncNested
import Derived.RangeFuncBound
import Derived.RangeFuncCalls
import Derived.RangeFuncLeaves
import Derived.Shelf.RegionOpen
import Derived.OwnWalkIn
import Derived.TacticsInMore
import Derived.LoopNIn
import Derived.LoopIn
import Derived.Lib.IndexLaws
import Derived.Test.YtbjipcpoiiegkaaGreatDoorChecked
import Derived.Test.YtbjipcpoiiegkaaGreatDoorShelf
namespace Go.Proofs.YtbjipcpoiiegkaaGreatDoor
open Go.RowKit

/-- What is said does not hang on what block b's first cell holds. -/
def Blind {β : Type} (b : Nat) (J : β → World → Prop) : Prop := ∀ s W v, J s W → J s (W.setCell ⟨b, 0, none⟩ v)
/-- The iterator hands on xs, one after the other, and writes nothing but block b's first cell. -/
def Feeds {α : Type} (F : Fence) (n : Nat) (P : Program) (g : Nat) (lb : Array Value) (encs : α → Array Value) (b : Nat) (Kp : World → World → Prop) (xs : List α) (W : World) : Prop :=
  ∀ (l : Nat) (J Jx : List α → World → Prop), Blind b J → Blind b Jx →
    (∀ pre x W1, J pre W1 → pre ++ [x] <+: xs → YieldAt F (n - 1) P l (encs x) W1 fun e W' => (e = .returned (.bool true) ∧ J (pre ++ [x]) W' ∧ Kp W1 W') ∨ (e = .returned (.bool false) ∧ Jx (pre ++ [x]) W')) →
    J [] W → CallsIn F n P g (#[.func (.yield l) #[] #[]] ++ lb) W fun e W' => (∃ v, e = .returned v) ∧ (J xs W' ∨ ∃ pre, Jx pre W')
/-- How a round may end: it goes on, or the function returns. -/
def RoundEnd (B : Nat) (Kp : World → World → Prop) (I R : World → Prop) (W : World) : Exit → Act → World → Prop
  | .normal, _, W' => KeepsFrom B W W' ∧ Kp W W' ∧ I W'
  | .ret, _, W' => KeepsFrom B W W' ∧ R W'
  | _, _, _ => False

theorem range_feeds {F : Fence} {n : Nat} {P : Program} {α : Type} {g : Operand} {ps : Array Tmp} {assign body : Code} {Q : Exit → Act → World → Prop} {a : Act} {w : World} (hro : F.round = none) (h1 : 1 ≤ n) {gf : Nat} {lb : Array Value}
    (hg : a.eval g = .func (.func gf) #[] lb) (hFg : F.fn gf) (eg : ∀ args w, (callFunc gf args).run P w = .ok (.enter gf args) w) {encs : α → Array Value} {b : Nat} {Kp : World → World → Prop} {xs : List α} (hb : b < w.heap.size)
    (hseq : ∀ W, Below w.heap.size w W → Feeds F (n - 1) P gf lb encs b Kp xs W) (hKt : ∀ {A B C : World}, Kp A B → Kp B C → Kp A C) (hKb : ∀ (W : World) (l : Nat) (o : Obj), w.heap.size ≤ l → Kp W (W.putObj l o)) (hps : ∀ x, (encs x).size = ps.size)
    (I R : List α → World → Prop) (hI : OwnFrom w.heap.size I) (hR : OwnFrom w.heap.size R) (hIb : Blind b I) (hRb : Blind b R) (h0 : I [] w) (a₁ : α → Act)
    (hassign : ∀ (l : Nat) (x : α) (W : World) (K : Act → World → Prop), K (a₁ x) W →
      assign.wpIn (F.inRound l) (n - 1 - 1) P (Exit.then K (fun _ _ _ => False)) { tmps := (ps.zip (encs x)).foldl (fun t (p, v) => t.setIfInBounds p v) a.tmps, defers := [] } W)
    (hbody : ∀ (l : Nat) (pre : List α) (x : α) (W : World), I pre W → pre ++ [x] <+: xs → body.wpIn (F.inRound l) (n - 1 - 1) P (RoundEnd w.heap.size Kp (I (pre ++ [x])) (R (pre ++ [x])) W) (a₁ x) W)
    (hdone : ∀ (D : Nat) (W : World), w.heap.size ≤ D → I xs W → W.heap[D]? = some (.deferred (some [])) → Q .normal { a with defers := { target := .collected D, args := #[] } :: a.defers } W)
    (hret : ∀ (D : Nat) (pre : List α) (W : World), w.heap.size ≤ D → R pre W → W.heap[D]? = some (.deferred (some [])) → Code.ret.wpIn F n P Q { a with defers := { target := .collected D, args := #[] } :: a.defers } W) :
    (Code.rangeFunc g ps assign body).wpIn F n P Q a w := by
  refine wpIn_rangeFunc fun fn hfn => ?_
  rw [hro]
  -- the loop's record in its three states, and the two blocks that the loop lays
  let rec0 : LoopState → Option Code → Loop := fun st pe => { state := st, pending := pe, fn := fn, tmps := a.tmps, params := ps, assign := assign, body := body, defers := w.heap.size }
  let s := w.heap.size
  let W0 := (w.alloc (.deferred (some []))).alloc (.loop (rec0 .ready none))
  have e0 : W0.heap[s]? = some (.deferred (some [])) := (Below.heap_alloc _ _ _ (by simp [s])).trans (World.alloc_heap_new w _)
  have e1 : W0.heap[s + 1]? = some (.loop (rec0 .ready none)) := by
    have := World.alloc_heap_new (w.alloc (.deferred (some []))) (.loop (rec0 .ready none))
    rwa [World.size_alloc] at this
  have hbel : Below w.heap.size w W0 := ((Below.refl _ w).alloc (Nat.le_refl _) _).alloc (by simp) _
  let Rec : Loop → World → Prop := fun r W => W.heap[s + 1]? = some (.loop r) ∧ W.heap[s]? = some (.deferred (some []))
  have blindRec : ∀ r W v, Rec r W → Rec r (W.setCell ⟨b, 0, none⟩ v) := fun r W v h =>
    ⟨(Below.heap_setCell W _ v (s + 1) (by show s + 1 ≠ b; omega)).trans h.1, (Below.heap_setCell W _ v s (by show s ≠ b; omega)).trans h.2⟩
  refine ⟨s + 1, [{ target := .collected s, args := #[] }], W0, { target := .fn (.func gf) lb, args := #[.func (.yield (s + 1)) #[] #[]] }, W0, gf, #[.func (.yield (s + 1)) #[] #[]] ++ lb, W0, run_enterLoop_outer _ _ _ _ _, ?_, ?_, ?_, fun _ => h1, ?_⟩
  · simp only [resolve, hg]
    simp [go_sem]
  · intro f' hf'
    simp [Target.leads] at hf'
    subst hf'
    exact hFg
  · simp [invoke, go_sem, eg]
  refine (hseq W0 hbel (s + 1) (fun pre W => I pre W ∧ Rec (rec0 .ready none) W) (fun pre W => R pre W ∧ Rec (rec0 .done (some .ret)) W)
    (fun pre W v h => ⟨hIb pre W v h.1, blindRec _ W v h.2⟩) (fun pre W v h => ⟨hRb pre W v h.1, blindRec _ W v h.2⟩) ?_ ⟨hI.alloc _ (hI.alloc _ h0), e1, e0⟩).mono ?_
  · -- one round
    rintro pre x W ⟨hi, hl, hk⟩ hx
    have hlt : s + 1 < W.heap.size := (Array.getElem?_eq_some_iff.1 hl).1
    refine ⟨fn, _, assign, body, run_yield hl (hps x), roundIn_of_wpIn hfn (hassign _ x W _ ⟨_, run_beginRound hl rfl, ?_⟩)⟩
    have hl2 : (W.putObj (s + 1) (.loop { rec0 .ready none with state := .busy })).heap[s + 1]? = some (.loop { rec0 .ready none with state := .busy }) := World.putObj_heap_same hlt
    have hk2 : (W.putObj (s + 1) (.loop { rec0 .ready none with state := .busy })).heap[s]? = some (.deferred (some [])) := (World.putObj_heap_other (by omega)).trans hk
    refine wpIn_mono (hbody _ pre x _ (hI.putObj _ hi (by omega) hl rfl) hx) ?_
    intro e a3 W3 hp
    have tail : KeepsFrom w.heap.size (W.putObj (s + 1) (.loop { rec0 .ready none with state := .busy })) W3 → W3.heap[s + 1]? = some (.loop { rec0 .ready none with state := .busy }) ∧ W3.heap[s]? = some (.deferred (some [])) ∧ s + 1 < W3.heap.size := fun h3 =>
      ⟨h3.same _ _ (by omega) hl2 rfl, h3.same _ _ (Nat.le_refl _) hk2 rfl, (Array.getElem?_eq_some_iff.1 (h3.same _ _ (by omega) hl2 rfl)).1⟩
    cases e with
    | normal =>
      obtain ⟨hk3, hkp, hi3⟩ := hp
      obtain ⟨t1, t2, t3⟩ := tail hk3
      exact ⟨_, _, run_endRound none t1, .inl ⟨rfl, ⟨hI.putObj _ hi3 (by omega) t1 rfl, World.putObj_heap_same t3, (World.putObj_heap_other (by omega)).trans t2⟩, hKt (hKt (hKb _ _ _ (by omega)) hkp) (hKb _ _ _ (by omega))⟩⟩
    | ret =>
      obtain ⟨hk3, hi3⟩ := hp
      obtain ⟨t1, t2, t3⟩ := tail hk3
      exact ⟨_, _, run_endRound (some .ret) t1, .inr ⟨rfl, hR.putObj _ hi3 (by omega) t1 rfl, World.putObj_heap_same t3, (World.putObj_heap_other (by omega)).trans t2⟩⟩
    | exit id => exact hp.elim
    | goto t => exact hp.elim
    | panic ch => exact hp.elim
    | outgrown => exact hp.elim
  · -- behind the iterator
    rintro e W2 ⟨⟨v, rfl⟩, (⟨hi, hl, hk⟩ | ⟨pre, hi, hl, hk⟩)⟩
    · exact ⟨none, _, run_endLoop hl (by simp [rec0]), hdone _ _ (Nat.le_refl _) (hI.putObj _ hi (by omega) hl rfl) ((World.putObj_heap_other (by omega)).trans hk)⟩
    · exact ⟨some .ret, _, run_endLoop hl (by simp [rec0]), hret _ pre _ (Nat.le_refl _) (hR.putObj _ hi (by omega) hl rfl) ((World.putObj_heap_other (by omega)).trans hk)⟩
end Go.Proofs.YtbjipcpoiiegkaaGreatDoor
namespace Go.Proofs.YtbjipcpoiiegkaaGreatDoor
open Go.RowKit Go.Shelf
attribute [local go_sem] Oper.semAt_some

theorem hid' {p : Prop} (h : p) : Hid p := h
theorem idx_lt {s : List UInt8} {c : UInt8} {o : Nat} (h : Lib.indexByte s c = o) : o < s.length := by
  have := (Lib.indexByte_some h).1
  exact (List.getElem?_eq_some_iff.1 this).1
/-- A text cut at its blanks. -/
def pieces (s : List UInt8) : List (List UInt8) :=
  if h : (Lib.indexByte s 32).toNat < s.length ∧ 0 ≤ Lib.indexByte s 32 then s.take (Lib.indexByte s 32).toNat :: pieces (s.drop ((Lib.indexByte s 32).toNat + 1)) else [s]
termination_by s.length
decreasing_by simp only [List.length_drop]; omega
theorem pieces_none {s : List UInt8} (h : Lib.indexByte s 32 = -1) : pieces s = [s] := by
  rw [pieces, dif_neg (by rw [h]; omega)]
theorem pieces_some {s : List UInt8} {o : Nat} (h : Lib.indexByte s 32 = o) : pieces s = s.take o :: pieces (s.drop (o + 1)) := by
  have := idx_lt h
  rw [pieces, dif_pos (by rw [h]; exact ⟨by simpa using this, by omega⟩), h]
  simp
theorem idx_cases (s : List UInt8) : Lib.indexByte s 32 = -1 ∨ ∃ o : Nat, Lib.indexByte s 32 = o := by
  have := Lib.indexByte_ge s 32
  by_cases h : Lib.indexByte s 32 = -1
  · exact .inl h
  · exact .inr ⟨(Lib.indexByte s 32).toNat, by omega⟩

theorem cut_front (l : List UInt8) (o : Nat) : (⟨l.toArray⟩ : ByteArray).extract 0 o = ⟨(l.take o).toArray⟩ := by
  apply ByteArray.ext
  rw [ByteArray.data_extract]
  simp
theorem cut_back (l : List UInt8) (o : Nat) : (⟨l.toArray⟩ : ByteArray).extract o l.length = ⟨(l.drop o).toArray⟩ := by
  apply ByteArray.ext
  rw [ByteArray.data_extract]
  simp only [List.extract_toArray, List.extract_eq_take_drop]
  rw [List.take_of_length_le (by rw [List.length_drop]; exact Nat.le_refl _)]
theorem set_one {w : World} {b : Nat} {x u : Value} {t : TypeId} (h : w.heap[b]? = some (.cells #[x] t (0, 0))) : (w.setCell ⟨b, 0, none⟩ u).heap[b]? = some (.cells #[u] t (0, 0)) := by
  have hlt : b < w.heap.size := (Array.getElem?_eq_some_iff.1 h).1
  have h' : w.heap[b] = .cells #[x] t (0, 0) := by simpa [Array.getElem?_eq_getElem hlt] using h
  show (w.heap.modify b _)[b]? = _
  rw [Array.getElem?_eq_getElem (by simpa using hlt), Array.getElem_modify_self, h']
  rfl
theorem set_far {w : World} {b c o : Nat} {u : Value} (h : c ≠ b) : (w.setCell ⟨b, 0, none⟩ u).cell? ⟨c, o, none⟩ = w.cell? ⟨c, o, none⟩ := by
  have := Below.heap_setCell w ⟨b, 0, none⟩ u c h
  simp [World.cell?, this]
/-- The three captured blocks lie as they lay. -/
def Kept (b0 b1 b2 : Nat) (W W' : World) : Prop := W'.heap[b0]? = W.heap[b0]? ∧ W'.heap[b1]? = W.heap[b1]? ∧ W'.heap[b2]? = W.heap[b2]?
theorem cell_heap {W W' : World} {b o : Nat} (h : W'.heap[b]? = W.heap[b]?) : W'.cell? ⟨b, o, none⟩ = W.cell? ⟨b, o, none⟩ := by simp [World.cell?, h]
theorem frozen_heap {W W' : World} {b o : Nat} (h : W'.heap[b]? = W.heap[b]?) : W'.frozen? ⟨b, o, none⟩ = W.frozen? ⟨b, o, none⟩ := by simp [World.frozen?, h]
/-- How much is left, read off the world. -/
def leftAt (b : Nat) (W : World) : Nat := match W.cell? ⟨b, 0, none⟩ with
  | some (.string x) => x.size
  | _ => 0

set_option maxRecDepth 100000 in
set_option maxHeartbeats 2000000 in
theorem split_feeds (n : Nat) (hn : 1 ≤ n) (b0 b1 b2 : Nat) (s : List UInt8) (W : World) (h01 : b0 ≠ b1) (h12 : b2 ≠ b1) (c0 : W.cell? ⟨b0, 0, none⟩ = some (.string ⟨#[32]⟩)) (c1 : W.heap[b1]? = some (.cells #[.string ⟨s.toArray⟩] 9 (0, 0)))
    (c2 : W.cell? ⟨b2, 0, none⟩ = some (.int .i64 0)) (hs : s.length ≤ 9223372036854775807) :
    Feeds Fence.wide n Tryz.prog 80 #[.pointer (some ⟨b0, 0, none⟩), .pointer (some ⟨b1, 0, none⟩), .pointer (some ⟨b2, 0, none⟩)] (fun x : List UInt8 => #[.string ⟨x.toArray⟩]) b1 (Kept b0 b1 b2) (pieces s) W := by
  intro l J Jx hJ hJx hY h0
  refine callsIn_of_wp Tryz.func80 rfl trivial ?_ rfl
  simp only [Tryz.ntmps80, List.size_toArray, List.length_cons, List.length_nil, Nat.reduceAdd, Nat.reduceSub, Array.replicate_succ, Array.replicate_zero, List.push_toArray, List.append_toArray, List.nil_append, List.cons_append]
  have k1 : W.cell? ⟨b1, 0, none⟩ = some (.string ⟨s.toArray⟩) := cell_of_one c1
  gi_wp2
  gi_loopw [7, 8] (fun _ _ wr => ∃ (pre : List (List UInt8)) (rest : List UInt8), pieces s = pre ++ pieces rest ∧ rest.length ≤ 9223372036854775807 ∧ wr.heap[b1]? = some (.cells #[.string ⟨rest.toArray⟩] 9 (0, 0)) ∧ wr.cell? ⟨b0, 0, none⟩ = some (.string ⟨#[32]⟩) ∧ wr.cell? ⟨b2, 0, none⟩ = some (.int .i64 0) ∧ J pre wr) (fun _ _ wr => leftAt b1 wr)
  case atStart => exact ⟨[], s, by simp, hs, c1, c0, c2, h0⟩
  case round =>
    clear c0 c1 c2 k1
    obtain ⟨pre, rest, hp, hl, c1, c0, c2, hj⟩ := hrel
    have k1 : wr.cell? ⟨b1, 0, none⟩ = some (.string ⟨rest.toArray⟩) := cell_of_one c1
    have hx := Tryz.strings_Index_one ⟨rest.toArray⟩ 32
    rcases idx_cases rest with hi | ⟨o, hi⟩
    · rw [hi] at hx
      obtain ⟨fn, tmps, assign, body, hy, hR⟩ := hY pre rest wr hj (by rw [hp, pieces_none hi]; exact List.prefix_rfl)
      gi_wp2_with (refine ⟨trivial, ?_⟩; gi_at_call 73; refine (callsIn_wide.2 (hx _)).mono ?_; rintro e w' ⟨rfl, rfl⟩)
      refine hR.mono ?_
      rintro e W3 (⟨rfl, hJ3, _⟩ | ⟨rfl, hx3⟩)
      · have hE : Hid (J (pieces s) W3) := hid' (by rw [hp, pieces_none hi]; exact hJ3)
        gi_wp2
        go_end0
        exact ⟨⟨_, rfl⟩, .inl hE.out⟩
      · gi_wp2
        go_end0
        exact ⟨⟨_, rfl⟩, .inr ⟨_, hx3⟩⟩
    · rw [hi] at hx
      have ho := idx_lt hi
      have hp2 : pieces s = pre ++ [rest.take o] ++ pieces (rest.drop (o + 1)) := by rw [hp, pieces_some hi]; simp
      obtain ⟨fn, tmps, assign, body, hy, hR⟩ := hY pre (rest.take o) wr hj (by rw [hp2]; exact List.prefix_append _ _)
      have HP : Hid (pieces s = pre ++ [rest.take o] ++ pieces (rest.drop (o + 1))) := hid' hp2
      clear hp hp2 hi
      have hx1 : (⟨rest.toArray⟩ : ByteArray).extract 0 o = ⟨(rest.take o).toArray⟩ := cut_front rest o
      have hx2 : (⟨rest.toArray⟩ : ByteArray).extract (o + 1) rest.length = ⟨(rest.drop (o + 1)).toArray⟩ := cut_back rest (o + 1)
      have hm0 : leftAt b1 wr = rest.length := by
        unfold leftAt
        rw [k1]
        simp [ByteArray.size]
      gi_wp2_with (refine ⟨trivial, ?_⟩; gi_at_call 73; refine (callsIn_wide.2 (hx _)).mono ?_; rintro e w' ⟨rfl, rfl⟩)
      refine hR.mono ?_
      rintro e W3 (⟨rfl, hJ3, hk0, hk1, hk2⟩ | ⟨rfl, hx3⟩)
      · have d1 : W3.heap[b1]? = some (.cells #[.string ⟨rest.toArray⟩] 9 (0, 0)) := hk1.trans c1
        have d0 : W3.cell? ⟨b0, 0, none⟩ = some (.string ⟨#[32]⟩) := (cell_heap hk0).trans c0
        have d2 : W3.cell? ⟨b2, 0, none⟩ = some (.int .i64 0) := (cell_heap hk2).trans c2
        have kk : W3.cell? ⟨b1, 0, none⟩ = some (.string ⟨rest.toArray⟩) := cell_of_one d1
        have ff : W3.frozen? ⟨b1, 0, none⟩ = false := by simp [World.frozen?, d1]
        clear c0 c1 c2 k1 hk0 hk1 hk2 hR hy hj
        have e1 := set_one (u := .string ⟨(rest.drop (o + 1)).toArray⟩) d1
        have m1 : leftAt b1 (W3.setCell ⟨b1, 0, none⟩ (.string ⟨(rest.drop (o + 1)).toArray⟩)) = (rest.drop (o + 1)).length := by
          unfold leftAt
          rw [cell_of_one e1]
          simp [ByteArray.size]
        gi_wp2
        refine ⟨⟨_, rest.drop (o + 1), HP.out, by rw [List.length_drop]; omega, e1, (set_far h01).trans d0, (set_far h12).trans d2, hJ _ _ _ hJ3⟩, ?_⟩
        rw [m1, hm0, List.length_drop]
        omega
      · gi_wp2
        refine bodyPost_ret (results_none rfl _ _ _) rfl ?_
        exact ⟨⟨_, rfl⟩, .inr ⟨_, hx3⟩⟩
end Go.Proofs.YtbjipcpoiiegkaaGreatDoor
