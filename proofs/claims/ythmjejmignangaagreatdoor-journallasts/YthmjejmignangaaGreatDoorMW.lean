/- What a Writer of one's own is given (out of layer 4's CPl, CPc). What a Writer of one's own is given: several numbers (out of layer 17's MK). A loop over an iterator that writes nothing that was there, but lays new blocks and draws: what the iterator owes, what the loop's body owes, also where it is left, and what then holds. -/
import Derived.Test.YthmjejmignangaaGreatDoorWJ
import Derived.Test.YthmjejmignangaaGreatDoorRE
import Derived.RangeFuncWrites
import Derived.Shelf.Abstract
import Derived.WalkKit
import Derived.Deep.Draws
namespace Go.Proofs.YthmjejmignangaaGreatDoor
open Go.RowKit
/-- The Writer that was made at w: at the two blocks behind w. -/
structure MineW (w wr : World) (vr : Value) (bs : List UInt8) : Prop where
  H : WrE wr (w.heap.size + 1) w.heap.size vr 0
  hO : OwnB wr (w.heap.size + 2) vr bs
  hb : Below w.heap.size w wr
  hz : w.heap.size + 2 ≤ wr.heap.size
theorem MineW.step {w wr w2 : World} {vr v2 : Value} {bs bs2 : List UInt8} (M : MineW w wr vr bs) (H : WrE w2 (w.heap.size + 1) w.heap.size v2 0) (hO : OwnB w2 (w.heap.size + 2) v2 bs2) (hs : WStep w.heap.size wr vr w2 v2) : MineW w w2 v2 bs2 :=
  ⟨H, hO, M.hb.trans (hs.below (by have := M.hz; omega) (Nat.le_refl _) (fun k e => by have := (M.hO.lt k e).1; omega)), Nat.le_trans M.hz hs.1.size⟩
/-- A block that the Writer does not touch. -/
structure Kept (w0 wr : World) (vr : Value) (k : Nat) (o : Obj) : Prop where
  there : wr.heap[k]? = some o
  off : k ≠ w0.heap.size ∧ vr.ownBlock ≠ some k
theorem Kept.step {w0 wr w2 : World} {vr v2 : Value} {k : Nat} {o : Obj} (K : Kept w0 wr vr k o) (hs : WStep w0.heap.size wr vr w2 v2) : Kept w0 w2 v2 k o := by
  have hlt := (Array.getElem?_eq_some_iff.1 K.there).1
  refine ⟨?_, K.off.1, ?_⟩
  · rw [hs.1.block k hlt (fun e => e.elim K.off.1 K.off.2)]; exact K.there
  · rcases hs.2 with e | ⟨g, e, hg⟩
    · rw [e]; exact K.off.2
    · rw [e]; intro h; cases h; omega
theorem MineW.chg {w0 w3 w' : World} {v3 : Value} {bs : List UInt8} (M : MineW w0 w3 v3 bs) (hc : Chg w3 w' (WSet w0.heap.size v3)) : Below w0.heap.size w0 w' :=
  M.hb.trans (hc.below (by have := M.hz; omega) (fun i h => by
    rcases h with h | h
    · omega
    · have := (M.hO.lt i h).1; omega))
/-- What is written: the bytes, and what a call that answers r leaves. -/
def WroteW (w0 : World) (bs : List UInt8) (r : Value) (w : World) (v : Value) (e : Ending) (w' : World) : Prop := ∃ v', e = .returned r ∧ MineW w0 w' v' bs ∧ WStep w0.heap.size w v w' v'
theorem byteW (w0 W : World) (v : Value) (bs : List UInt8) (M : MineW w0 W v bs) (B n : Nat) (hB : W.heap.size = B) (hn : n ≤ 255) (hroom : bs.length + 1 ≤ 1048576) : Calls Tryz.prog 88 #[.pointer (some ⟨w0.heap.size + 1, 0, none⟩), .slice (some ⟨B, 0, none⟩) 1 1] (W.alloc (.cells #[.int .i64 (n : Int)] 3)) (WroteW w0 (bs ++ [UInt8.ofNat n]) (.int .i64 0) W v) := by
  have e : (n : Int) = ((UInt8.ofNat n).toNat : Nat) := by rw [UInt8.toNat_ofNat']; omega
  rw [e]
  refine (byte_one _ _ _ _ v bs _ W hB M.H M.hO M.hz hroom).mono ?_
  rintro e w3 ⟨v3, rfl, H3, hO3, hs3⟩
  exact ⟨v3, rfl, M.step H3 hO3 hs3, hs3⟩
theorem MineW.alloc {w0 w : World} {v : Value} {bs : List UInt8} (M : MineW w0 w v bs) (o : Obj) : MineW w0 (w.alloc o) v bs := M.step (M.H.chg (Chg.alloc _ _ (fun _ => False)) id id) (Own.chg M.hO (Chg.alloc _ _ (fun _ => False)) (fun _ _ => id)) (WStep.alloc _ _ _ _)
theorem MineW.kept {w0 w : World} {v : Value} {bs : List UInt8} (M : MineW w0 w v bs) (cs : Array Value) (t : TypeId) : Kept w0 (w.alloc (.cells cs t)) v w.heap.size (.cells cs t (0, 0)) := ⟨heap_alloc_new w _, by have := M.hz; omega, fun e => by have := (M.hO.lt _ e).2; omega⟩
theorem bytes2W (w0 W : World) (v : Value) (bs : List UInt8) (M : MineW w0 W v bs) (B : Nat) (hB : W.heap.size = B) (x y : Int) (hx : 0 ≤ x ∧ x ≤ 255) (hy : 0 ≤ y ∧ y ≤ 255) (hroom : bs.length + 2 ≤ 1048576) : Calls Tryz.prog 88 #[.pointer (some ⟨w0.heap.size + 1, 0, none⟩), .slice (some ⟨B, 0, none⟩) 2 2] (W.alloc (.cells #[.int .i64 x, .int .i64 y] 3)) (WroteW w0 (bs ++ byts [x, y]) (.int .i64 0) W v) := by
  subst hB
  have M1 := M.alloc (.cells #[.int .i64 x, .int .i64 y] 3)
  have K1 := M.kept #[.int .i64 x, .int .i64 y] 3
  refine (byte_ok _ _ _ v bs _ 2 2 [x, y] _ M1.H M1.hO M1.hz (by omega) rfl (by omega) (fun w' hc => .inr ⟨W.heap.size, 0, rfl, fun j hj => ?_⟩) (fun j h => ?_) (by omega)).mono ?_
  · have hn : ¬ WSet w0.heap.size v W.heap.size := fun e => e.elim K1.off.1 K1.off.2
    match j, hj with
    | 0, _ => exact hc.cell (by rw [Lib.cell_of_heap K1.there]; rfl) hn
    | 1, _ => exact hc.cell (by rw [Lib.cell_of_heap K1.there]; rfl) hn
  · match j, h with
    | 0, _ => exact hx
    | 1, _ => exact hy
  rintro e w3 ⟨v3, rfl, H3, hO3, hs3⟩
  have hs := (WStep.alloc w0.heap.size W v (.cells #[.int .i64 x, .int .i64 y] 3)).trans hs3
  exact ⟨v3, rfl, M.step H3 hO3 hs, hs⟩
theorem intW (w0 W : World) (v : Value) (bs : List UInt8) (M : MineW w0 W v bs) (B : Nat) (x : Int) (hB : W.heap.size = B) (hroom : bs.length + 8 ≤ 1048576) : Calls Tryz.prog 87 #[.pointer (some ⟨w0.heap.size + 1, 0, none⟩), .slice (some ⟨B, 0, none⟩) 1 1] (W.alloc (.cells #[.int .i64 x] 3)) (WroteW w0 (bs ++ be64 x) (.int .i64 0) W v) := by
  refine (int_one _ _ _ _ v bs x W hB M.H M.hO M.hz hroom).mono ?_
  rintro e w3 ⟨v3, rfl, H3, hO3, hs3⟩
  exact ⟨v3, rfl, M.step H3 hO3 hs3, hs3⟩
end Go.Proofs.YthmjejmignangaaGreatDoor
namespace Go.Proofs.YthmjejmignangaaGreatDoor
open Go.RowKit
theorem bytesN_W (w0 W : World) (v : Value) (bs : List UInt8) (M : MineW w0 W v bs) (B n : Nat) (hB : W.heap.size = B) (ns : List Int) (hn : ns.length = n) (hm : n ≤ 1000) (vs : Array Value) (hv : vs = (ns.map fun x => Value.int .i64 x).toArray) (hall : ∀ x ∈ ns, 0 ≤ x ∧ x ≤ 255) (hroom : bs.length + n ≤ 1048576) : Calls Tryz.prog 88 #[.pointer (some ⟨w0.heap.size + 1, 0, none⟩), .slice (some ⟨B, 0, none⟩) n n] (W.alloc (.cells vs 3)) (WroteW w0 (bs ++ byts ns) (.int .i64 0) W v) := by
  subst hB hv
  have M1 := M.alloc (.cells (ns.map fun x => Value.int .i64 x).toArray 3)
  have K1 := M.kept (ns.map fun x => Value.int .i64 x).toArray 3
  refine (byte_ok _ _ _ v bs _ n n ns _ M1.H M1.hO M1.hz (by omega) hn (by omega) (fun w' hc => .inr ⟨W.heap.size, 0, rfl, fun j hj => ?_⟩) (fun j h => hall _ (List.getElem_mem h)) (by omega)).mono ?_
  · have hn : ¬ WSet w0.heap.size v W.heap.size := fun e => e.elim K1.off.1 K1.off.2
    exact hc.cell (by rw [Lib.cell_of_heap K1.there]; simp [hj]) hn
  rintro e w3 ⟨v3, rfl, H3, hO3, hs3⟩
  have hs := (WStep.alloc w0.heap.size W v (.cells (ns.map fun x => Value.int .i64 x).toArray 3)).trans hs3
  exact ⟨v3, rfl, M.step H3 hO3 hs, hs⟩
theorem intsN_W (w0 W : World) (v : Value) (bs : List UInt8) (M : MineW w0 W v bs) (B n : Nat) (hB : W.heap.size = B) (ns : List Int) (hn : ns.length = n) (vs : Array Value) (hv : vs = (ns.map fun x => Value.int .i64 x).toArray) (hroom : bs.length + 8 * n ≤ 1048576) : Calls Tryz.prog 87 #[.pointer (some ⟨w0.heap.size + 1, 0, none⟩), .slice (some ⟨B, 0, none⟩) n n] (W.alloc (.cells vs 3)) (WroteW w0 (bs ++ ints ns) (.int .i64 0) W v) := by
  subst hB hv
  have M1 := M.alloc (.cells (ns.map fun x => Value.int .i64 x).toArray 3)
  have K1 := M.kept (ns.map fun x => Value.int .i64 x).toArray 3
  refine (int_ok _ _ _ v bs _ n n ns _ M1.H M1.hO M1.hz (by omega) hn (fun w' hc => .inr ⟨W.heap.size, 0, rfl, fun j hj => ?_⟩) (by omega)).mono ?_
  · have hn : ¬ WSet w0.heap.size v W.heap.size := fun e => e.elim K1.off.1 K1.off.2
    exact hc.cell (by rw [Lib.cell_of_heap K1.there]; simp [hj]) hn
  rintro e w3 ⟨v3, rfl, H3, hO3, hs3⟩
  have hs := (WStep.alloc w0.heap.size W v (.cells (ns.map fun x => Value.int .i64 x).toArray 3)).trans hs3
  exact ⟨v3, rfl, M.step H3 hO3 hs, hs⟩
end Go.Proofs.YthmjejmignangaaGreatDoor
namespace Go.Proofs.YthmjejmignangaaGreatDoor
open Go.RowKit

/-- What is said does not hang on new blocks and draws. -/
def Als {β : Type} (J : β → World → Prop) : Prop := ∀ s W W', J s W → Below W.heap.size W W' → J s W'
/-- The iterator hands on xs, one after the other, and writes nothing. -/
def Feeds3 {α : Type} (F : Fence) (n : Nat) (P : Program) (g : Nat) (lb : Array Value) (encs : α → Array Value) (Kp : World → World → Prop) (xs : List α) (W : World) : Prop :=
  ∀ (l : Nat) (J Jx : List α → World → Prop), Als J → Als Jx →
    (∀ pre x W1, J pre W1 → pre ++ [x] <+: xs → YieldAt F (n - 1) P l (encs x) W1 fun e W' => (e = .returned (.bool true) ∧ J (pre ++ [x]) W' ∧ Kp W1 W') ∨ (e = .returned (.bool false) ∧ Jx (pre ++ [x]) W')) →
    J [] W → CallsIn F n P g (#[.func (.yield l) #[] #[]] ++ lb) W fun e W' => (∃ v, e = .returned v) ∧ (J xs W' ∨ ∃ pre, pre <+: xs ∧ Jx pre W')
/-- How a round may end: it goes on, or the loop is left. -/
def RoundEnd3 (B : Nat) (Kp : World → World → Prop) (I : World → Prop) (R : Code → World → Prop) (W : World) : Exit → Act → World → Prop
  | .normal, _, W' => KeepsFrom B W W' ∧ Kp W W' ∧ I W'
  | .ret, _, W' => KeepsFrom B W W' ∧ R .ret W'
  | .exit id, _, W' => KeepsFrom B W W' ∧ R (.exit id) W'
  | _, _, _ => False
theorem own_belowI {β : Type} {B : Nat} {I : β → World → Prop} (h : OwnFrom B I) : Als I := fun s W W' hs b => h s W W' none hs ⟨b.os, b.tape, b.output, b.size, fun k hk _ => b.block k hk⟩ (fun r e => by cases e)
theorem range_feeds3 {F : Fence} {n : Nat} {P : Program} {α : Type} {g : Operand} {ps : Array Tmp} {assign body : Code} {Q : Exit → Act → World → Prop} {a : Act} {w : World} (hro : F.round = none) (h1 : 1 ≤ n) {gf : Nat} {lb : Array Value}
    (hg : a.eval g = .func (.func gf) #[] lb) (hFg : F.fn gf) (eg : ∀ args w, (callFunc gf args).run P w = .ok (.enter gf args) w) {encs : α → Array Value} {Kp : World → World → Prop} {xs : List α}
    (hseq : ∀ W, Below w.heap.size w W → Feeds3 F (n - 1) P gf lb encs Kp xs W) (hKt : ∀ {A B C : World}, Kp A B → Kp B C → Kp A C) (hKb : ∀ (W : World) (l : Nat) (o : Obj), w.heap.size ≤ l → Kp W (W.putObj l o)) (hps : ∀ x, (encs x).size = ps.size)
    (I : List α → World → Prop) (R : Code → List α → World → Prop) (hI : OwnFrom w.heap.size I) (hR : ∀ c, OwnFrom w.heap.size (R c)) (h0 : I [] w) (a₁ : α → Act)
    (hassign : ∀ (l : Nat) (x : α) (W : World) (K : Act → World → Prop), K (a₁ x) W →
      assign.wpIn (F.inRound l) (n - 1 - 1) P (Exit.then K (fun _ _ _ => False)) { tmps := (ps.zip (encs x)).foldl (fun t (p, v) => t.setIfInBounds p v) a.tmps, defers := [] } W)
    (hbody : ∀ (l : Nat) (pre : List α) (x : α) (W : World), I pre W → pre ++ [x] <+: xs → body.wpIn (F.inRound l) (n - 1 - 1) P (RoundEnd3 w.heap.size Kp (I (pre ++ [x])) (fun c => R c (pre ++ [x])) W) (a₁ x) W)
    (hdone : ∀ (D : Nat) (W : World), w.heap.size ≤ D → I xs W → W.heap[D]? = some (.deferred (some [])) → Q .normal { a with defers := { target := .collected D, args := #[] } :: a.defers } W)
    (hstop : ∀ (D : Nat) (c : Code) (pre : List α) (W : World), w.heap.size ≤ D → pre <+: xs → R c pre W → W.heap[D]? = some (.deferred (some [])) → c.wpIn F n P Q { a with defers := { target := .collected D, args := #[] } :: a.defers } W) :
    (Code.rangeFunc g ps assign body).wpIn F n P Q a w := by
  refine wpIn_rangeFunc fun fn hfn => ?_
  rw [hro]
  -- the loop's record in its three states, and the two blocks that the loop lays
  let rec0 : LoopState → Option Code → Loop := fun st pe => { state := st, pending := pe, fn := fn, tmps := a.tmps, params := ps, assign := assign, body := body, defers := w.heap.size }
  let s := w.heap.size
  let W0 := (w.alloc (.deferred (some []))).alloc (.loop (rec0 .ready none))
  have e0 : W0.heap[s]? = some (.deferred (some [])) := (Below.heap_alloc _ _ _ (by simp [s])).trans (World.alloc_heap_new w _)
  have e1 : W0.heap[s + 1]? = some (.loop (rec0 .ready none)) := by
    have := World.alloc_heap_new (w.alloc (.deferred (some []))) (.loop (rec0 .ready none))
    rwa [World.size_alloc] at this
  have hbel : Below w.heap.size w W0 := ((Below.refl _ w).alloc (Nat.le_refl _) _).alloc (by simp) _
  let Rec : Loop → World → Prop := fun r W => W.heap[s + 1]? = some (.loop r) ∧ W.heap[s]? = some (.deferred (some []))
  have recB : ∀ r W W', Rec r W → Below W.heap.size W W' → Rec r W' := fun r W W' h b => ⟨(b.block _ (Array.getElem?_eq_some_iff.1 h.1).1).trans h.1, (b.block _ (Array.getElem?_eq_some_iff.1 h.2).1).trans h.2⟩
  refine ⟨s + 1, [{ target := .collected s, args := #[] }], W0, { target := .fn (.func gf) lb, args := #[.func (.yield (s + 1)) #[] #[]] }, W0, gf, #[.func (.yield (s + 1)) #[] #[]] ++ lb, W0, run_enterLoop_outer _ _ _ _ _, ?_, ?_, ?_, fun _ => h1, ?_⟩
  · simp only [resolve, hg]
    simp [go_sem]
  · intro f' hf'
    simp [Target.leads] at hf'
    subst hf'
    exact hFg
  · simp [invoke, go_sem, eg]
  refine (hseq W0 hbel (s + 1) (fun pre W => I pre W ∧ Rec (rec0 .ready none) W) (fun pre W => ∃ c, R c pre W ∧ Rec (rec0 .done (some c)) W)
    (fun pre W W' h b => ⟨own_belowI hI pre W W' h.1 b, recB _ _ _ h.2 b⟩) (fun pre W W' ⟨c, h⟩ b => ⟨c, own_belowI (hR c) pre W W' h.1 b, recB _ _ _ h.2 b⟩) ?_ ⟨hI.alloc _ (hI.alloc _ h0), e1, e0⟩).mono ?_
  · -- one round
    rintro pre x W ⟨hi, hl, hk⟩ hx
    have hlt : s + 1 < W.heap.size := (Array.getElem?_eq_some_iff.1 hl).1
    refine ⟨fn, _, assign, body, run_yield hl (hps x), roundIn_of_wpIn hfn (hassign _ x W _ ⟨_, run_beginRound hl rfl, ?_⟩)⟩
    have hl2 : (W.putObj (s + 1) (.loop { rec0 .ready none with state := .busy })).heap[s + 1]? = some (.loop { rec0 .ready none with state := .busy }) := World.putObj_heap_same hlt
    have hk2 : (W.putObj (s + 1) (.loop { rec0 .ready none with state := .busy })).heap[s]? = some (.deferred (some [])) := (World.putObj_heap_other (by omega)).trans hk
    refine wpIn_mono (hbody _ pre x _ (hI.putObj _ hi (by omega) hl rfl) hx) ?_
    intro e a3 W3 hp
    have tail : KeepsFrom w.heap.size (W.putObj (s + 1) (.loop { rec0 .ready none with state := .busy })) W3 → W3.heap[s + 1]? = some (.loop { rec0 .ready none with state := .busy }) ∧ W3.heap[s]? = some (.deferred (some [])) ∧ s + 1 < W3.heap.size := fun h3 =>
      ⟨h3.same _ _ (by omega) hl2 rfl, h3.same _ _ (Nat.le_refl _) hk2 rfl, (Array.getElem?_eq_some_iff.1 (h3.same _ _ (by omega) hl2 rfl)).1⟩
    cases e with
    | normal =>
      obtain ⟨hk3, hkp, hi3⟩ := hp
      obtain ⟨t1, t2, t3⟩ := tail hk3
      exact ⟨_, _, run_endRound none t1, .inl ⟨rfl, ⟨hI.putObj _ hi3 (by omega) t1 rfl, World.putObj_heap_same t3, (World.putObj_heap_other (by omega)).trans t2⟩, hKt (hKt (hKb _ _ _ (by omega)) hkp) (hKb _ _ _ (by omega))⟩⟩
    | ret =>
      obtain ⟨hk3, hi3⟩ := hp
      obtain ⟨t1, t2, t3⟩ := tail hk3
      exact ⟨_, _, run_endRound (some .ret) t1, .inr ⟨rfl, .ret, (hR _).putObj _ hi3 (by omega) t1 rfl, World.putObj_heap_same t3, (World.putObj_heap_other (by omega)).trans t2⟩⟩
    | exit id =>
      obtain ⟨hk3, hi3⟩ := hp
      obtain ⟨t1, t2, t3⟩ := tail hk3
      exact ⟨_, _, run_endRound (some (.exit id)) t1, .inr ⟨rfl, .exit id, (hR _).putObj _ hi3 (by omega) t1 rfl, World.putObj_heap_same t3, (World.putObj_heap_other (by omega)).trans t2⟩⟩
    | goto t => exact hp.elim
    | panic ch => exact hp.elim
    | outgrown => exact hp.elim
  · -- behind the iterator
    rintro e W2 ⟨⟨v, rfl⟩, (⟨hi, hl, hk⟩ | ⟨pre, hpre, c, hi, hl, hk⟩)⟩
    · exact ⟨none, _, run_endLoop hl (by simp [rec0]), hdone _ _ (Nat.le_refl _) (hI.putObj _ hi (by omega) hl rfl) ((World.putObj_heap_other (by omega)).trans hk)⟩
    · exact ⟨some c, _, run_endLoop hl (by simp [rec0]), hstop _ c pre _ (Nat.le_refl _) hpre ((hR c).putObj _ hi (by omega) hl rfl) ((World.putObj_heap_other (by omega)).trans hk)⟩
end Go.Proofs.YthmjejmignangaaGreatDoor
