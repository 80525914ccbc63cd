/- A loop over an iterator that writes nothing, but draws: what the iterator owes, what the loop's body owes, also where it is left, and what then holds. -/
import Derived.RangeFuncWrites
import Derived.Shelf.Abstract
import Derived.WalkKit
import Derived.Deep.Draws
namespace Go.Proofs.YticihfbhnbkjjaaDoor
open Go.RowKit

/-- What is said does not hang on draws. -/
def Drs {β : Type} (J : β → World → Prop) : Prop := ∀ s W m, J s W → J s (W.drewN m)
/-- The iterator hands on xs, one after the other, and writes nothing. -/
def Feeds2 {α : Type} (F : Fence) (n : Nat) (P : Program) (g : Nat) (lb : Array Value) (encs : α → Array Value) (Kp : World → World → Prop) (xs : List α) (W : World) : Prop :=
  ∀ (l : Nat) (J Jx : List α → World → Prop), Drs J → Drs Jx →
    (∀ pre x W1, J pre W1 → pre ++ [x] <+: xs → YieldAt F (n - 1) P l (encs x) W1 fun e W' => (e = .returned (.bool true) ∧ J (pre ++ [x]) W' ∧ Kp W1 W') ∨ (e = .returned (.bool false) ∧ Jx (pre ++ [x]) W')) →
    J [] W → CallsIn F n P g (#[.func (.yield l) #[] #[]] ++ lb) W fun e W' => (∃ v, e = .returned v) ∧ (J xs W' ∨ ∃ pre, pre <+: xs ∧ Jx pre W')
/-- How a round may end: it goes on, or the loop is left. -/
def RoundEnd2 (B : Nat) (Kp : World → World → Prop) (I : World → Prop) (R : Code → World → Prop) (W : World) : Exit → Act → World → Prop
  | .normal, _, W' => KeepsFrom B W W' ∧ Kp W W' ∧ I W'
  | .ret, _, W' => KeepsFrom B W W' ∧ R .ret W'
  | .exit id, _, W' => KeepsFrom B W W' ∧ R (.exit id) W'
  | _, _, _ => False
theorem own_drew {β : Type} {B : Nat} {I : β → World → Prop} (h : OwnFrom B I) : Drs I := fun s W m hs => h s W _ none hs ⟨rfl, rfl, rfl, Nat.le_refl _, fun _ _ _ => rfl⟩ (fun r e => by cases e)
theorem range_feeds2 {F : Fence} {n : Nat} {P : Program} {α : Type} {g : Operand} {ps : Array Tmp} {assign body : Code} {Q : Exit → Act → World → Prop} {a : Act} {w : World} (hro : F.round = none) (h1 : 1 ≤ n) {gf : Nat} {lb : Array Value}
    (hg : a.eval g = .func (.func gf) #[] lb) (hFg : F.fn gf) (eg : ∀ args w, (callFunc gf args).run P w = .ok (.enter gf args) w) {encs : α → Array Value} {Kp : World → World → Prop} {xs : List α}
    (hseq : ∀ W, Below w.heap.size w W → Feeds2 F (n - 1) P gf lb encs Kp xs W) (hKt : ∀ {A B C : World}, Kp A B → Kp B C → Kp A C) (hKb : ∀ (W : World) (l : Nat) (o : Obj), w.heap.size ≤ l → Kp W (W.putObj l o)) (hps : ∀ x, (encs x).size = ps.size)
    (I : List α → World → Prop) (R : Code → List α → World → Prop) (hI : OwnFrom w.heap.size I) (hR : ∀ c, OwnFrom w.heap.size (R c)) (h0 : I [] w) (a₁ : α → Act)
    (hassign : ∀ (l : Nat) (x : α) (W : World) (K : Act → World → Prop), K (a₁ x) W →
      assign.wpIn (F.inRound l) (n - 1 - 1) P (Exit.then K (fun _ _ _ => False)) { tmps := (ps.zip (encs x)).foldl (fun t (p, v) => t.setIfInBounds p v) a.tmps, defers := [] } W)
    (hbody : ∀ (l : Nat) (pre : List α) (x : α) (W : World), I pre W → pre ++ [x] <+: xs → body.wpIn (F.inRound l) (n - 1 - 1) P (RoundEnd2 w.heap.size Kp (I (pre ++ [x])) (fun c => R c (pre ++ [x])) W) (a₁ x) W)
    (hdone : ∀ (D : Nat) (W : World), w.heap.size ≤ D → I xs W → W.heap[D]? = some (.deferred (some [])) → Q .normal { a with defers := { target := .collected D, args := #[] } :: a.defers } W)
    (hstop : ∀ (D : Nat) (c : Code) (pre : List α) (W : World), w.heap.size ≤ D → pre <+: xs → R c pre W → W.heap[D]? = some (.deferred (some [])) → c.wpIn F n P Q { a with defers := { target := .collected D, args := #[] } :: a.defers } W) :
    (Code.rangeFunc g ps assign body).wpIn F n P Q a w := by
  refine wpIn_rangeFunc fun fn hfn => ?_
  rw [hro]
  -- the loop's record in its three states, and the two blocks that the loop lays
  let rec0 : LoopState → Option Code → Loop := fun st pe => { state := st, pending := pe, fn := fn, tmps := a.tmps, params := ps, assign := assign, body := body, defers := w.heap.size }
  let s := w.heap.size
  let W0 := (w.alloc (.deferred (some []))).alloc (.loop (rec0 .ready none))
  have e0 : W0.heap[s]? = some (.deferred (some [])) := (Below.heap_alloc _ _ _ (by simp [s])).trans (World.alloc_heap_new w _)
  have e1 : W0.heap[s + 1]? = some (.loop (rec0 .ready none)) := by
    have := World.alloc_heap_new (w.alloc (.deferred (some []))) (.loop (rec0 .ready none))
    rwa [World.size_alloc] at this
  have hbel : Below w.heap.size w W0 := ((Below.refl _ w).alloc (Nat.le_refl _) _).alloc (by simp) _
  let Rec : Loop → World → Prop := fun r W => W.heap[s + 1]? = some (.loop r) ∧ W.heap[s]? = some (.deferred (some []))
  refine ⟨s + 1, [{ target := .collected s, args := #[] }], W0, { target := .fn (.func gf) lb, args := #[.func (.yield (s + 1)) #[] #[]] }, W0, gf, #[.func (.yield (s + 1)) #[] #[]] ++ lb, W0, run_enterLoop_outer _ _ _ _ _, ?_, ?_, ?_, fun _ => h1, ?_⟩
  · simp only [resolve, hg]
    simp [go_sem]
  · intro f' hf'
    simp [Target.leads] at hf'
    subst hf'
    exact hFg
  · simp [invoke, go_sem, eg]
  refine (hseq W0 hbel (s + 1) (fun pre W => I pre W ∧ Rec (rec0 .ready none) W) (fun pre W => ∃ c, R c pre W ∧ Rec (rec0 .done (some c)) W)
    (fun pre W m h => ⟨own_drew hI pre W m h.1, h.2⟩) (fun pre W m ⟨c, h⟩ => ⟨c, own_drew (hR c) pre W m h.1, h.2⟩) ?_ ⟨hI.alloc _ (hI.alloc _ h0), e1, e0⟩).mono ?_
  · -- one round
    rintro pre x W ⟨hi, hl, hk⟩ hx
    have hlt : s + 1 < W.heap.size := (Array.getElem?_eq_some_iff.1 hl).1
    refine ⟨fn, _, assign, body, run_yield hl (hps x), roundIn_of_wpIn hfn (hassign _ x W _ ⟨_, run_beginRound hl rfl, ?_⟩)⟩
    have hl2 : (W.putObj (s + 1) (.loop { rec0 .ready none with state := .busy })).heap[s + 1]? = some (.loop { rec0 .ready none with state := .busy }) := World.putObj_heap_same hlt
    have hk2 : (W.putObj (s + 1) (.loop { rec0 .ready none with state := .busy })).heap[s]? = some (.deferred (some [])) := (World.putObj_heap_other (by omega)).trans hk
    refine wpIn_mono (hbody _ pre x _ (hI.putObj _ hi (by omega) hl rfl) hx) ?_
    intro e a3 W3 hp
    have tail : KeepsFrom w.heap.size (W.putObj (s + 1) (.loop { rec0 .ready none with state := .busy })) W3 → W3.heap[s + 1]? = some (.loop { rec0 .ready none with state := .busy }) ∧ W3.heap[s]? = some (.deferred (some [])) ∧ s + 1 < W3.heap.size := fun h3 =>
      ⟨h3.same _ _ (by omega) hl2 rfl, h3.same _ _ (Nat.le_refl _) hk2 rfl, (Array.getElem?_eq_some_iff.1 (h3.same _ _ (by omega) hl2 rfl)).1⟩
    cases e with
    | normal =>
      obtain ⟨hk3, hkp, hi3⟩ := hp
      obtain ⟨t1, t2, t3⟩ := tail hk3
      exact ⟨_, _, run_endRound none t1, .inl ⟨rfl, ⟨hI.putObj _ hi3 (by omega) t1 rfl, World.putObj_heap_same t3, (World.putObj_heap_other (by omega)).trans t2⟩, hKt (hKt (hKb _ _ _ (by omega)) hkp) (hKb _ _ _ (by omega))⟩⟩
    | ret =>
      obtain ⟨hk3, hi3⟩ := hp
      obtain ⟨t1, t2, t3⟩ := tail hk3
      exact ⟨_, _, run_endRound (some .ret) t1, .inr ⟨rfl, .ret, (hR _).putObj _ hi3 (by omega) t1 rfl, World.putObj_heap_same t3, (World.putObj_heap_other (by omega)).trans t2⟩⟩
    | exit id =>
      obtain ⟨hk3, hi3⟩ := hp
      obtain ⟨t1, t2, t3⟩ := tail hk3
      exact ⟨_, _, run_endRound (some (.exit id)) t1, .inr ⟨rfl, .exit id, (hR _).putObj _ hi3 (by omega) t1 rfl, World.putObj_heap_same t3, (World.putObj_heap_other (by omega)).trans t2⟩⟩
    | goto t => exact hp.elim
    | panic ch => exact hp.elim
    | outgrown => exact hp.elim
  · -- behind the iterator
    rintro e W2 ⟨⟨v, rfl⟩, (⟨hi, hl, hk⟩ | ⟨pre, hpre, c, hi, hl, hk⟩)⟩
    · exact ⟨none, _, run_endLoop hl (by simp [rec0]), hdone _ _ (Nat.le_refl _) (hI.putObj _ hi (by omega) hl rfl) ((World.putObj_heap_other (by omega)).trans hk)⟩
    · exact ⟨some c, _, run_endLoop hl (by simp [rec0]), hstop _ c pre _ (Nat.le_refl _) hpre ((hR c).putObj _ hi (by omega) hl rfl) ((World.putObj_heap_other (by omega)).trans hk)⟩
end Go.Proofs.YticihfbhnbkjjaaDoor
