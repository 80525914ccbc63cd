/- A loop over an iterator that writes nothing, but draws: what the iterator owes, what the loop's body owes, also where it is left, and what then holds. Layer 11: trees of nodes in a list, plainly: what is linked, found, turned. -/
import Derived.RangeFuncWrites
import Derived.Shelf.Abstract
import Derived.WalkKit
import Derived.Deep.Draws
namespace Go.Proofs.Ytcjakgogdbfagaa
open Go.RowKit

/-- What is said does not hang on draws. -/
def Drs {β : Type} (J : β → World → Prop) : Prop := ∀ s W m, J s W → J s (W.drewN m)
/-- The iterator hands on xs, one after the other, and writes nothing. -/
def Feeds2 {α : Type} (F : Fence) (n : Nat) (P : Program) (g : Nat) (lb : Array Value) (encs : α → Array Value) (Kp : World → World → Prop) (xs : List α) (W : World) : Prop :=
  ∀ (l : Nat) (J Jx : List α → World → Prop), Drs J → Drs Jx →
    (∀ pre x W1, J pre W1 → pre ++ [x] <+: xs → YieldAt F (n - 1) P l (encs x) W1 fun e W' => (e = .returned (.bool true) ∧ J (pre ++ [x]) W' ∧ Kp W1 W') ∨ (e = .returned (.bool false) ∧ Jx (pre ++ [x]) W')) →
    J [] W → CallsIn F n P g (#[.func (.yield l) #[] #[]] ++ lb) W fun e W' => (∃ v, e = .returned v) ∧ (J xs W' ∨ ∃ pre, pre <+: xs ∧ Jx pre W')
/-- How a round may end: it goes on, or the loop is left. -/
def RoundEnd2 (B : Nat) (Kp : World → World → Prop) (I : World → Prop) (R : Code → World → Prop) (W : World) : Exit → Act → World → Prop
  | .normal, _, W' => KeepsFrom B W W' ∧ Kp W W' ∧ I W'
  | .ret, _, W' => KeepsFrom B W W' ∧ R .ret W'
  | .exit id, _, W' => KeepsFrom B W W' ∧ R (.exit id) W'
  | _, _, _ => False
theorem own_drew {β : Type} {B : Nat} {I : β → World → Prop} (h : OwnFrom B I) : Drs I := fun s W m hs => h s W _ none hs ⟨rfl, rfl, rfl, Nat.le_refl _, fun _ _ _ => rfl⟩ (fun r e => by cases e)
theorem range_feeds2 {F : Fence} {n : Nat} {P : Program} {α : Type} {g : Operand} {ps : Array Tmp} {assign body : Code} {Q : Exit → Act → World → Prop} {a : Act} {w : World} (hro : F.round = none) (h1 : 1 ≤ n) {gf : Nat} {lb : Array Value}
    (hg : a.eval g = .func (.func gf) #[] lb) (hFg : F.fn gf) (eg : ∀ args w, (callFunc gf args).run P w = .ok (.enter gf args) w) {encs : α → Array Value} {Kp : World → World → Prop} {xs : List α}
    (hseq : ∀ W, Below w.heap.size w W → Feeds2 F (n - 1) P gf lb encs Kp xs W) (hKt : ∀ {A B C : World}, Kp A B → Kp B C → Kp A C) (hKb : ∀ (W : World) (l : Nat) (o : Obj), w.heap.size ≤ l → Kp W (W.putObj l o)) (hps : ∀ x, (encs x).size = ps.size)
    (I : List α → World → Prop) (R : Code → List α → World → Prop) (hI : OwnFrom w.heap.size I) (hR : ∀ c, OwnFrom w.heap.size (R c)) (h0 : I [] w) (a₁ : α → Act)
    (hassign : ∀ (l : Nat) (x : α) (W : World) (K : Act → World → Prop), K (a₁ x) W →
      assign.wpIn (F.inRound l) (n - 1 - 1) P (Exit.then K (fun _ _ _ => False)) { tmps := (ps.zip (encs x)).foldl (fun t (p, v) => t.setIfInBounds p v) a.tmps, defers := [] } W)
    (hbody : ∀ (l : Nat) (pre : List α) (x : α) (W : World), I pre W → pre ++ [x] <+: xs → body.wpIn (F.inRound l) (n - 1 - 1) P (RoundEnd2 w.heap.size Kp (I (pre ++ [x])) (fun c => R c (pre ++ [x])) W) (a₁ x) W)
    (hdone : ∀ (D : Nat) (W : World), w.heap.size ≤ D → I xs W → W.heap[D]? = some (.deferred (some [])) → Q .normal { a with defers := { target := .collected D, args := #[] } :: a.defers } W)
    (hstop : ∀ (D : Nat) (c : Code) (pre : List α) (W : World), w.heap.size ≤ D → pre <+: xs → R c pre W → W.heap[D]? = some (.deferred (some [])) → c.wpIn F n P Q { a with defers := { target := .collected D, args := #[] } :: a.defers } W) :
    (Code.rangeFunc g ps assign body).wpIn F n P Q a w := by
  refine wpIn_rangeFunc fun fn hfn => ?_
  rw [hro]
  -- the loop's record in its three states, and the two blocks that the loop lays
  let rec0 : LoopState → Option Code → Loop := fun st pe => { state := st, pending := pe, fn := fn, tmps := a.tmps, params := ps, assign := assign, body := body, defers := w.heap.size }
  let s := w.heap.size
  let W0 := (w.alloc (.deferred (some []))).alloc (.loop (rec0 .ready none))
  have e0 : W0.heap[s]? = some (.deferred (some [])) := (Below.heap_alloc _ _ _ (by simp [s])).trans (World.alloc_heap_new w _)
  have e1 : W0.heap[s + 1]? = some (.loop (rec0 .ready none)) := by
    have := World.alloc_heap_new (w.alloc (.deferred (some []))) (.loop (rec0 .ready none))
    rwa [World.size_alloc] at this
  have hbel : Below w.heap.size w W0 := ((Below.refl _ w).alloc (Nat.le_refl _) _).alloc (by simp) _
  let Rec : Loop → World → Prop := fun r W => W.heap[s + 1]? = some (.loop r) ∧ W.heap[s]? = some (.deferred (some []))
  refine ⟨s + 1, [{ target := .collected s, args := #[] }], W0, { target := .fn (.func gf) lb, args := #[.func (.yield (s + 1)) #[] #[]] }, W0, gf, #[.func (.yield (s + 1)) #[] #[]] ++ lb, W0, run_enterLoop_outer _ _ _ _ _, ?_, ?_, ?_, fun _ => h1, ?_⟩
  · simp only [resolve, hg]
    simp [go_sem]
  · intro f' hf'
    simp [Target.leads] at hf'
    subst hf'
    exact hFg
  · simp [invoke, go_sem, eg]
  refine (hseq W0 hbel (s + 1) (fun pre W => I pre W ∧ Rec (rec0 .ready none) W) (fun pre W => ∃ c, R c pre W ∧ Rec (rec0 .done (some c)) W)
    (fun pre W m h => ⟨own_drew hI pre W m h.1, h.2⟩) (fun pre W m ⟨c, h⟩ => ⟨c, own_drew (hR c) pre W m h.1, h.2⟩) ?_ ⟨hI.alloc _ (hI.alloc _ h0), e1, e0⟩).mono ?_
  · -- one round
    rintro pre x W ⟨hi, hl, hk⟩ hx
    have hlt : s + 1 < W.heap.size := (Array.getElem?_eq_some_iff.1 hl).1
    refine ⟨fn, _, assign, body, run_yield hl (hps x), roundIn_of_wpIn hfn (hassign _ x W _ ⟨_, run_beginRound hl rfl, ?_⟩)⟩
    have hl2 : (W.putObj (s + 1) (.loop { rec0 .ready none with state := .busy })).heap[s + 1]? = some (.loop { rec0 .ready none with state := .busy }) := World.putObj_heap_same hlt
    have hk2 : (W.putObj (s + 1) (.loop { rec0 .ready none with state := .busy })).heap[s]? = some (.deferred (some [])) := (World.putObj_heap_other (by omega)).trans hk
    refine wpIn_mono (hbody _ pre x _ (hI.putObj _ hi (by omega) hl rfl) hx) ?_
    intro e a3 W3 hp
    have tail : KeepsFrom w.heap.size (W.putObj (s + 1) (.loop { rec0 .ready none with state := .busy })) W3 → W3.heap[s + 1]? = some (.loop { rec0 .ready none with state := .busy }) ∧ W3.heap[s]? = some (.deferred (some [])) ∧ s + 1 < W3.heap.size := fun h3 =>
      ⟨h3.same _ _ (by omega) hl2 rfl, h3.same _ _ (Nat.le_refl _) hk2 rfl, (Array.getElem?_eq_some_iff.1 (h3.same _ _ (by omega) hl2 rfl)).1⟩
    cases e with
    | normal =>
      obtain ⟨hk3, hkp, hi3⟩ := hp
      obtain ⟨t1, t2, t3⟩ := tail hk3
      exact ⟨_, _, run_endRound none t1, .inl ⟨rfl, ⟨hI.putObj _ hi3 (by omega) t1 rfl, World.putObj_heap_same t3, (World.putObj_heap_other (by omega)).trans t2⟩, hKt (hKt (hKb _ _ _ (by omega)) hkp) (hKb _ _ _ (by omega))⟩⟩
    | ret =>
      obtain ⟨hk3, hi3⟩ := hp
      obtain ⟨t1, t2, t3⟩ := tail hk3
      exact ⟨_, _, run_endRound (some .ret) t1, .inr ⟨rfl, .ret, (hR _).putObj _ hi3 (by omega) t1 rfl, World.putObj_heap_same t3, (World.putObj_heap_other (by omega)).trans t2⟩⟩
    | exit id =>
      obtain ⟨hk3, hi3⟩ := hp
      obtain ⟨t1, t2, t3⟩ := tail hk3
      exact ⟨_, _, run_endRound (some (.exit id)) t1, .inr ⟨rfl, .exit id, (hR _).putObj _ hi3 (by omega) t1 rfl, World.putObj_heap_same t3, (World.putObj_heap_other (by omega)).trans t2⟩⟩
    | goto t => exact hp.elim
    | panic ch => exact hp.elim
    | outgrown => exact hp.elim
  · -- behind the iterator
    rintro e W2 ⟨⟨v, rfl⟩, (⟨hi, hl, hk⟩ | ⟨pre, hpre, c, hi, hl, hk⟩)⟩
    · exact ⟨none, _, run_endLoop hl (by simp [rec0]), hdone _ _ (Nat.le_refl _) (hI.putObj _ hi (by omega) hl rfl) ((World.putObj_heap_other (by omega)).trans hk)⟩
    · exact ⟨some c, _, run_endLoop hl (by simp [rec0]), hstop _ c pre _ (Nat.le_refl _) hpre ((hR c).putObj _ hi (by omega) hl rfl) ((World.putObj_heap_other (by omega)).trans hk)⟩
end Go.Proofs.Ytcjakgogdbfagaa
namespace Go.Proofs.Ytcjakgogdbfagaa
open Go.RowKit
abbrev Bt := List UInt8
/-- A node: its key, its value, the places below it, its height. -/
structure Nd where
  (k v : Bt) (l r h : Nat)
def Nd.zero : Nd := ⟨[], [], 0, 0, 0⟩
def Nd.link (x : Nd) (s : Nat) : Nat := if s = 0 then x.l else x.r
def Nd.setLink (x : Nd) (s y : Nat) : Nd := if s = 0 then { x with l := y } else { x with r := y }
def upd (f : Nat → Nd) (p : Nat) (x : Nd) : Nat → Nd := fun q => if q = p then x else f q
theorem upd_same (f : Nat → Nd) (p : Nat) (x : Nd) : upd f p x p = x := if_pos rfl
theorem upd_other (f : Nat → Nd) {p q : Nat} (x : Nd) (h : q ≠ p) : upd f p x q = f q := if_neg h
/-- A tree of places. -/
inductive Tr where
  | e
  | n (l : Tr) (p : Nat) (r : Tr)
def Tr.top : Tr → Nat
  | .e => 0
  | .n _ p _ => p
def Tr.pl : Tr → List Nat
  | .e => []
  | .n l p r => l.pl ++ p :: r.pl
/-- The nodes are linked as the tree says. -/
def Lk (f : Nat → Nd) : Tr → Prop
  | .e => True
  | .n l p r => Lk f l ∧ Lk f r ∧ (f p).l = l.top ∧ (f p).r = r.top ∧ p ≠ 0 ∧ 1 ≤ (f p).h ∧ (f p).h ≤ l.pl.length + r.pl.length + 1
theorem Lk.ext {f g : Nat → Nd} : ∀ {T : Tr}, Lk f T → (∀ p ∈ T.pl, g p = f p) → Lk g T
  | .e, _, _ => trivial
  | .n l p r, ⟨h1, h2, h3, h4, h5, h6, h7⟩, e => by
    have ep := e p (by simp [Tr.pl])
    exact ⟨h1.ext fun q hq => e q (by simp [Tr.pl, hq]), h2.ext fun q hq => e q (by simp [Tr.pl, hq]), by rw [ep]; exact h3, by rw [ep]; exact h4, h5, by rw [ep]; exact h6, by rw [ep]; exact h7⟩
theorem Lk.ne {f : Nat → Nd} : ∀ {T : Tr}, Lk f T → ∀ p ∈ T.pl, p ≠ 0
  | .e, _, _, h => by cases h
  | .n l p r, ⟨h1, h2, _, _, h5, _⟩, q, hq => by
    simp only [Tr.pl, List.mem_append, List.mem_cons] at hq
    rcases hq with h | rfl | h
    · exact h1.ne q h
    · exact h5
    · exact h2.ne q h
theorem Tr.top_mem {T : Tr} (h : T.top ≠ 0) : T.top ∈ T.pl := by
  cases T with
  | e => exact absurd rfl h
  | n l p r => simp [Tr.top, Tr.pl]
theorem Lk.nil {f : Nat → Nd} {T : Tr} (h : Lk f T) (e : T.top = 0) : T = .e := by
  cases T with
  | e => rfl
  | n l p r => exact absurd e h.2.2.2.2.1
theorem Lk.form {f : Nat → Nd} {T : Tr} (h : Lk f T) (e : T.top ≠ 0) : ∃ l r, T = .n l T.top r := by
  cases T with
  | e => exact absurd rfl e
  | n l p r => exact ⟨l, r, rfl⟩
/-- The height that stands at a tree's top. -/
theorem Lk.height {f : Nat → Nd} (z : (f 0).h = 0) : ∀ {T : Tr}, Lk f T → (f T.top).h ≤ T.pl.length
  | .e, _ => by rw [Tr.top, z]; exact Nat.zero_le _
  | .n l p r, h => by
    have := h.2.2.2.2.2.2
    simp [Tr.top, Tr.pl]; omega
/-- A node is measured. -/
def measF (f : Nat → Nd) (p : Nat) : Nat → Nd := upd f p { f p with h := 1 + max (f (f p).l).h (f (f p).r).h }
/-- A node is turned. -/
def turnF (f : Nat → Nd) (at_ s : Nat) : Nat → Nd :=
  let up := (f at_).link s
  let f1 := upd f at_ ((f at_).setLink s ((f up).link (1 - s)))
  let f2 := upd f1 up ((f1 up).setLink (1 - s) at_)
  measF (measF f2 at_) up
theorem measF_other {f : Nat → Nd} {p q : Nat} (h : q ≠ p) : measF f p q = f q := upd_other _ _ h
theorem measF_lr (f : Nat → Nd) (p q : Nat) : (measF f p q).l = (f q).l ∧ (measF f p q).r = (f q).r ∧ (measF f p q).k = (f q).k ∧ (measF f p q).v = (f q).v := by
  unfold measF upd
  split
  · rename_i h; subst h; exact ⟨rfl, rfl, rfl, rfl⟩
  · exact ⟨rfl, rfl, rfl, rfl⟩
theorem measF_h (f : Nat → Nd) (p : Nat) : (measF f p p).h = 1 + max (f (f p).l).h (f (f p).r).h := by
  unfold measF; rw [upd_same]
/-- Of a node's key and value nothing turns. -/
def KV (f g : Nat → Nd) : Prop := ∀ p, (g p).k = (f p).k ∧ (g p).v = (f p).v
theorem KV.refl (f : Nat → Nd) : KV f f := fun _ => ⟨rfl, rfl⟩
theorem KV.trans {f g h : Nat → Nd} (a : KV f g) (b : KV g h) : KV f h := fun p => ⟨(b p).1.trans (a p).1, (b p).2.trans (a p).2⟩
theorem KV.upd {f : Nat → Nd} {p : Nat} {x : Nd} (h : x.k = (f p).k ∧ x.v = (f p).v) : KV f (upd f p x) := fun q => by
  unfold Proofs.Ytcjakgogdbfagaa.upd
  split
  · rename_i e; subst e; exact h
  · exact ⟨rfl, rfl⟩
theorem Nd.setLink_kv (x : Nd) (s y : Nat) : (x.setLink s y).k = x.k ∧ (x.setLink s y).v = x.v := by
  unfold Nd.setLink; split <;> exact ⟨rfl, rfl⟩
theorem KV.meas (f : Nat → Nd) (p : Nat) : KV f (measF f p) := KV.upd ⟨rfl, rfl⟩
theorem KV.turn (f : Nat → Nd) (p s : Nat) : KV f (turnF f p s) := by
  unfold turnF
  exact (((KV.upd (Nd.setLink_kv _ _ _)).trans (KV.upd (Nd.setLink_kv _ _ _))).trans (KV.meas _ _)).trans (KV.meas _ _)
/-- Outside of these places nothing turns. -/
def Out (l : List Nat) (f g : Nat → Nd) : Prop := ∀ p, p ∉ l → g p = f p
theorem Out.refl (l : List Nat) (f : Nat → Nd) : Out l f f := fun _ _ => rfl
theorem Out.trans {l : List Nat} {f g h : Nat → Nd} (a : Out l f g) (b : Out l g h) : Out l f h := fun p hp => (b p hp).trans (a p hp)
theorem Out.mono {l m : List Nat} {f g : Nat → Nd} (a : Out l f g) (h : ∀ p ∈ l, p ∈ m) : Out m f g := fun p hp => a p fun x => hp (h p x)
theorem Out.upd {l : List Nat} {f : Nat → Nd} {p : Nat} {x : Nd} (h : p ∈ l) : Out l f (upd f p x) := fun _ hq => upd_other _ _ fun e => hq (e ▸ h)
theorem Out.lk {l : List Nat} {f g : Nat → Nd} (a : Out l f g) {T : Tr} (h : Lk f T) (d : ∀ p ∈ T.pl, p ∉ l) : Lk g T := h.ext fun p hp => a p (d p hp)
theorem turnF_out (f : Nat → Nd) (p s : Nat) {l : List Nat} (h1 : p ∈ l) (h2 : (f p).link s ∈ l) : Out l f (turnF f p s) := by
  unfold turnF
  exact (((Out.upd h1).trans (Out.upd h2)).trans (Out.upd h1)).trans (Out.upd h2)
/-- A node whose sides are linked; its own height may be anything. -/
def Lk0 (f : Nat → Nd) (l : Tr) (p : Nat) (r : Tr) : Prop := Lk f l ∧ Lk f r ∧ (f p).l = l.top ∧ (f p).r = r.top ∧ p ≠ 0
theorem Lk0.meas {f : Nat → Nd} {l r : Tr} {p : Nat} (h : Lk0 f l p r) (z : (f 0).h = 0) (hl : p ∉ l.pl) (hr : p ∉ r.pl) : Lk (measF f p) (.n l p r) := by
  obtain ⟨h1, h2, h3, h4, h5⟩ := h
  have o : Out [p] f (measF f p) := Out.upd (by simp)
  refine ⟨o.lk h1 fun _ hq e => hl (by simp at e; exact e ▸ hq), o.lk h2 fun _ hq e => hr (by simp at e; exact e ▸ hq), by rw [(measF_lr f p p).1, h3], by rw [(measF_lr f p p).2.1, h4], h5, ?_, ?_⟩
  · rw [measF_h]; omega
  · rw [measF_h, h3, h4]
    have := h1.height z
    have := h2.height z
    omega
theorem Lk.lk0 {f : Nat → Nd} {l r : Tr} {p : Nat} (h : Lk f (.n l p r)) : Lk0 f l p r := ⟨h.1, h.2.1, h.2.2.1, h.2.2.2.1, h.2.2.2.2.1⟩
/-- The left one is lifted. -/
theorem turn_left {f : Nat → Nd} {a b r : Tr} {up at_ : Nat} (z : (f 0).h = 0) (h : Lk0 f (.n a up b) at_ r) (nd : ((Tr.n (.n a up b) at_ r).pl).Nodup) :
    Lk (turnF f at_ 0) (.n a up (.n b at_ r)) ∧ (f at_).link 0 = up := by
  obtain ⟨⟨ha, hb, hua, hub, hu0, _, _⟩, hr, hal, har, ha0⟩ := h
  have eu : (f at_).link 0 = up := by simpa [Nd.link, Tr.top] using hal
  refine ⟨?_, eu⟩
  simp only [Tr.pl, List.append_assoc, List.cons_append] at nd
  have nd2 := nd
  rw [List.nodup_append] at nd
  obtain ⟨n1, n2, n3⟩ := nd
  rw [List.nodup_cons, List.nodup_append] at n2
  obtain ⟨n4, n5, n6, n7⟩ := n2
  rw [List.nodup_cons] at n6
  have hne : up ≠ at_ := fun e => n4 (by simp [e])
  have ua : up ∉ a.pl := fun e => n3 _ e _ (by simp) rfl
  have ub : up ∉ b.pl := fun e => n4 (by simp [e])
  have ur : up ∉ r.pl := fun e => n4 (by simp [e])
  have ta : at_ ∉ a.pl := fun e => n3 _ e at_ (by simp) rfl
  have tb : at_ ∉ b.pl := fun e => n7 _ e at_ (by simp) rfl
  have tr : at_ ∉ r.pl := n6.1
  unfold turnF
  simp only [eu]
  let f1 := upd f at_ ((f at_).setLink 0 ((f up).link (1 - 0)))
  let f2 := upd f1 up ((f1 up).setLink (1 - 0) at_)
  have o1 : Out [at_, up] f f2 := (Out.upd (by simp)).trans (Out.upd (by simp))
  have mem2 : ∀ {T : Tr}, at_ ∉ T.pl → up ∉ T.pl → ∀ q ∈ T.pl, q ∉ [at_, up] := fun h1 h2 q hq e => by
    simp at e
    rcases e with rfl | rfl
    · exact h1 hq
    · exact h2 hq
  have z2 : (f2 0).h = 0 := by rw [o1 0 (by simp; exact ⟨fun e => ha0 e.symm, fun e => hu0 e.symm⟩)]; exact z
  have e1 : f1 at_ = { f at_ with l := b.top } := by
    show upd f at_ _ at_ = _
    rw [upd_same]
    simp [Nd.setLink, Nd.link, hub]
  have e2 : f2 at_ = { f at_ with l := b.top } := by
    show upd f1 up _ at_ = _
    rw [upd_other _ _ (Ne.symm hne), e1]
  have e3 : f2 up = { f up with r := at_ } := by
    show upd f1 up _ up = _
    rw [upd_same]
    show (upd f at_ _ up).setLink 1 at_ = _
    rw [upd_other _ _ hne]
    simp [Nd.setLink]
  have k1 : Lk0 f2 b at_ r := ⟨o1.lk hb (mem2 tb ub), o1.lk hr (mem2 tr ur), by rw [e2], by rw [e2]; exact har, ha0⟩
  have k2 : Lk (measF f2 at_) (.n b at_ r) := k1.meas z2 tb tr
  have o2 : Out [at_] f2 (measF f2 at_) := Out.upd (by simp)
  have z3 : (measF f2 at_ 0).h = 0 := by rw [o2 0 (by simp; exact fun e => ha0 e.symm)]; exact z2
  have k3 : Lk0 (measF f2 at_) a up (.n b at_ r) := ⟨o2.lk (o1.lk ha (mem2 ta ua)) (fun q hq e => by simp at e; subst e; exact ta hq), k2, by rw [(measF_lr f2 at_ up).1, e3]; exact hua, by rw [(measF_lr f2 at_ up).2.1, e3]; rfl, hu0⟩
  exact k3.meas z3 ua (by simp only [Tr.pl, List.mem_append, List.mem_cons]; exact fun e => n4 (by simpa using e))
/-- The right one is lifted. -/
theorem turn_right {f : Nat → Nd} {l a b : Tr} {up at_ : Nat} (z : (f 0).h = 0) (h : Lk0 f l at_ (.n a up b)) (nd : ((Tr.n l at_ (.n a up b)).pl).Nodup) :
    Lk (turnF f at_ 1) (.n (.n l at_ a) up b) ∧ (f at_).link 1 = up := by
  obtain ⟨hl, ⟨ha, hb, hua, hub, hu0, _, _⟩, hal, har, ha0⟩ := h
  have eu : (f at_).link 1 = up := by simpa [Nd.link, Tr.top] using har
  refine ⟨?_, eu⟩
  simp only [Tr.pl] at nd
  rw [List.nodup_append] at nd
  obtain ⟨n1, n2, n3⟩ := nd
  rw [List.nodup_cons, List.nodup_append] at n2
  obtain ⟨n4, n5, n6, n7⟩ := n2
  rw [List.nodup_cons] at n6
  have hne : up ≠ at_ := fun e => n4 (by simp [e])
  have ua : up ∉ a.pl := fun e => n7 _ e up (by simp) rfl
  have ub : up ∉ b.pl := n6.1
  have ul : up ∉ l.pl := fun e => n3 _ e up (by simp) rfl
  have ta : at_ ∉ a.pl := fun e => n4 (by simp [e])
  have tb : at_ ∉ b.pl := fun e => n4 (by simp [e])
  have tl : at_ ∉ l.pl := fun e => n3 _ e at_ (by simp) rfl
  unfold turnF
  simp only [eu]
  let f1 := upd f at_ ((f at_).setLink 1 ((f up).link (1 - 1)))
  let f2 := upd f1 up ((f1 up).setLink (1 - 1) at_)
  have o1 : Out [at_, up] f f2 := (Out.upd (by simp)).trans (Out.upd (by simp))
  have mem2 : ∀ {T : Tr}, at_ ∉ T.pl → up ∉ T.pl → ∀ q ∈ T.pl, q ∉ [at_, up] := fun h1 h2 q hq e => by
    simp at e
    rcases e with rfl | rfl
    · exact h1 hq
    · exact h2 hq
  have z2 : (f2 0).h = 0 := by rw [o1 0 (by simp; exact ⟨fun e => ha0 e.symm, fun e => hu0 e.symm⟩)]; exact z
  have e1 : f1 at_ = { f at_ with r := a.top } := by
    show upd f at_ _ at_ = _
    rw [upd_same]
    simp [Nd.setLink, Nd.link, hua]
  have e2 : f2 at_ = { f at_ with r := a.top } := by
    show upd f1 up _ at_ = _
    rw [upd_other _ _ (Ne.symm hne), e1]
  have e3 : f2 up = { f up with l := at_ } := by
    show upd f1 up _ up = _
    rw [upd_same]
    show (upd f at_ _ up).setLink 0 at_ = _
    rw [upd_other _ _ hne]
    simp [Nd.setLink]
  have k1 : Lk0 f2 l at_ a := ⟨o1.lk hl (mem2 tl ul), o1.lk ha (mem2 ta ua), by rw [e2]; exact hal, by rw [e2], ha0⟩
  have k2 : Lk (measF f2 at_) (.n l at_ a) := k1.meas z2 tl ta
  have o2 : Out [at_] f2 (measF f2 at_) := Out.upd (by simp)
  have z3 : (measF f2 at_ 0).h = 0 := by rw [o2 0 (by simp; exact fun e => ha0 e.symm)]; exact z2
  have k3 : Lk0 (measF f2 at_) (.n l at_ a) up b := ⟨k2, o2.lk (o1.lk hb (mem2 tb ub)) (fun q hq e => by simp at e; subst e; exact tb hq), by rw [(measF_lr f2 at_ up).1, e3]; rfl, by rw [(measF_lr f2 at_ up).2.1, e3]; exact hub, hu0⟩
  refine k3.meas z3 ?_ ub
  simp only [Tr.pl, List.mem_append, List.mem_cons]
  rintro (e | e | e)
  · exact ul e
  · exact hne e
  · exact ua e
/-- What balanced does: a node whose sides differ by two or more is turned, else it is measured. -/
def turnsAt (f : Nat → Nd) (p s : Nat) : Prop := (f ((f p).link (1 - s))).h + 1 < (f ((f p).link s)).h
def innerF (f : Nat → Nd) (p s : Nat) : Nat → Nd :=
  let high := (f p).link s
  if (f ((f high).link s)).h < (f ((f high).link (1 - s))).h then upd (turnF f high (1 - s)) p ((turnF f high (1 - s) p).setLink s ((f high).link (1 - s))) else f
theorem innerF_kv (f : Nat → Nd) (p s : Nat) : KV f (innerF f p s) := by
  unfold innerF
  simp only
  split
  · exact (KV.turn _ _ _).trans (KV.upd (Nd.setLink_kv _ _ _))
  · exact KV.refl f
/-- What comes of it: a tree of the same places in the same order. -/
structure Bal (f f' : Nat → Nd) (l : Tr) (p : Nat) (r : Tr) (q : Nat) : Prop where
  kv : KV f f'
  out : Out (Tr.n l p r).pl f f'
  ex : ∃ T, Lk f' T ∧ T.top = q ∧ T.pl = (Tr.n l p r).pl
theorem bal_none {f : Nat → Nd} {l r : Tr} {p : Nat} (z : (f 0).h = 0) (h : Lk0 f l p r) (nd : (Tr.n l p r).pl.Nodup) : Bal f (measF f p) l p r p := by
  simp only [Tr.pl] at nd
  rw [List.nodup_append] at nd
  obtain ⟨_, n2, n3⟩ := nd
  rw [List.nodup_cons] at n2
  exact ⟨KV.meas _ _, Out.upd (by simp [Tr.pl]), _, h.meas z (fun e => n3 _ e p (by simp) rfl) n2.1, rfl, rfl⟩
theorem not_nil {f : Nat → Nd} (z : (f 0).h = 0) {T : Tr} (h : Lk f T) {k : Nat} (hh : k < (f T.top).h) : ∃ a p b, T = .n a p b := by
  cases T with
  | e => rw [Tr.top, z] at hh; omega
  | n a p b => exact ⟨a, p, b, rfl⟩
theorem bal_left {f : Nat → Nd} {l r : Tr} {p : Nat} (z : (f 0).h = 0) (h : Lk0 f l p r) (nd : (Tr.n l p r).pl.Nodup) (ht : turnsAt f p 0) :
    Bal f (turnF (innerF f p 0) p 0) l p r ((innerF f p 0 p).link 0) := by
  unfold turnsAt at ht
  have e1 : (f p).link 0 = l.top := by simpa [Nd.link] using h.2.2.1
  rw [e1] at ht
  obtain ⟨a, up, b, rfl⟩ := not_nil z h.1 ht
  have eup : (f p).link 0 = up := by simpa [Nd.link, Tr.top] using h.2.2.1
  have hu := h.1
  have ndl : (Tr.n a up b).pl.Nodup := by simp only [Tr.pl] at nd ⊢; exact (List.nodup_append.1 nd).1
  have hpl : p ∉ (Tr.n a up b).pl := fun e => by
    have n := nd
    rw [show (Tr.n (.n a up b) p r).pl = (Tr.n a up b).pl ++ p :: r.pl from rfl, List.nodup_append] at n
    exact n.2.2 _ e p (by simp) rfl
  have hpr : p ∉ r.pl := fun e => by
    have n := nd
    rw [show (Tr.n (.n a up b) p r).pl = (Tr.n a up b).pl ++ p :: r.pl from rfl, List.nodup_append, List.nodup_cons] at n
    exact n.2.1.1 e
  have hd : ∀ q ∈ r.pl, q ∉ (Tr.n a up b).pl := fun q hq e => by
    have n := nd
    rw [show (Tr.n (.n a up b) p r).pl = (Tr.n a up b).pl ++ p :: r.pl from rfl, List.nodup_append] at n
    exact n.2.2 _ e q (by simp [hq]) rfl
  by_cases hi : (f ((f up).link 0)).h < (f ((f up).link (1 - 0))).h
  · have eb : (f up).link 1 = b.top := by simpa [Nd.link] using hu.2.2.2.1
    have hi2 := hi
    rw [show 1 - 0 = 1 from rfl, eb] at hi2
    obtain ⟨c, m, d, rfl⟩ := not_nil z hu.2.1 hi2
    obtain ⟨k1, em⟩ := turn_right z hu.lk0 ndl
    have o1 : Out (Tr.n a up (.n c m d)).pl f (turnF f up 1) := turnF_out f up 1 (by simp [Tr.pl]) (by rw [em]; simp [Tr.pl])
    have ei : innerF f p 0 = upd (turnF f up 1) p { f p with l := m } := by
      unfold innerF
      simp only [eup]
      rw [if_pos hi, show 1 - 0 = 1 from rfl, em, o1 p hpl]
      simp [Nd.setLink]
    have z1 : (turnF f up 1 0).h = 0 := by rw [o1 0 fun e => h.1.ne 0 e rfl]; exact z
    have o2 : Out [p] (turnF f up 1) (innerF f p 0) := by rw [ei]; exact Out.upd (by simp)
    have k2 : Lk0 (innerF f p 0) (.n (.n a up c) m d) p r := by
      refine ⟨o2.lk k1 fun q hq e => ?_, o2.lk (o1.lk h.2.1 hd) fun q hq e => ?_, by rw [ei, upd_same]; rfl, by rw [ei, upd_same]; exact h.2.2.2.1, h.2.2.2.2⟩
      · simp at e; subst e
        exact hpl (by simpa [Tr.pl] using hq)
      · simp at e; subst e
        exact hpr hq
    have nd2 : (Tr.n (.n (.n a up c) m d) p r).pl.Nodup := by simpa [Tr.pl] using nd
    have z2 : (innerF f p 0 0).h = 0 := by rw [o2 0 (by simp; exact fun e => h.2.2.2.2 e.symm)]; exact z1
    obtain ⟨k3, em3⟩ := turn_left z2 k2 nd2
    refine ⟨(innerF_kv f p 0).trans (KV.turn _ _ _), ?_, _, k3, em3.symm, by simp [Tr.pl]⟩
    refine ((o1.mono ?_).trans (o2.mono ?_)).trans (turnF_out _ _ _ ?_ ?_)
    · intro q hq; rw [show (Tr.n (.n a up (.n c m d)) p r).pl = (Tr.n a up (.n c m d)).pl ++ p :: r.pl from rfl]; simp [hq]
    · intro q hq; simp at hq; subst hq; simp [Tr.pl]
    · simp [Tr.pl]
    · rw [em3]; simp [Tr.pl]
  · have ei : innerF f p 0 = f := by
      unfold innerF
      simp only [eup]
      rw [if_neg hi]
    rw [ei]
    obtain ⟨k3, em3⟩ := turn_left z h nd
    refine ⟨KV.turn _ _ _, turnF_out _ _ _ (by simp [Tr.pl]) (by rw [em3]; simp [Tr.pl]), _, k3, em3.symm, by simp [Tr.pl]⟩
theorem bal_right {f : Nat → Nd} {l r : Tr} {p : Nat} (z : (f 0).h = 0) (h : Lk0 f l p r) (nd : (Tr.n l p r).pl.Nodup) (ht : turnsAt f p 1) :
    Bal f (turnF (innerF f p 1) p 1) l p r ((innerF f p 1 p).link 1) := by
  unfold turnsAt at ht
  have e1 : (f p).link 1 = r.top := by simpa [Nd.link] using h.2.2.2.1
  rw [e1] at ht
  obtain ⟨a, up, b, rfl⟩ := not_nil z h.2.1 ht
  have eup : (f p).link 1 = up := by simpa [Nd.link, Tr.top] using h.2.2.2.1
  have hu := h.2.1
  have n0 := nd
  rw [show (Tr.n l p (.n a up b)).pl = l.pl ++ p :: (Tr.n a up b).pl from rfl, List.nodup_append, List.nodup_cons] at n0
  obtain ⟨_, ⟨hpr, ndr⟩, n3⟩ := n0
  have hpl : p ∉ l.pl := fun e => n3 _ e p (by simp) rfl
  have hd : ∀ q ∈ l.pl, q ∉ (Tr.n a up b).pl := fun q hq e => n3 _ hq q (by simp [e]) rfl
  by_cases hi : (f ((f up).link 1)).h < (f ((f up).link (1 - 1))).h
  · have eb : (f up).link 0 = a.top := by simpa [Nd.link] using hu.2.2.1
    have hi2 := hi
    rw [show 1 - 1 = 0 from rfl, eb] at hi2
    obtain ⟨c, m, d, rfl⟩ := not_nil z hu.1 hi2
    obtain ⟨k1, em⟩ := turn_left z hu.lk0 ndr
    have o1 : Out (Tr.n (.n c m d) up b).pl f (turnF f up 0) := turnF_out f up 0 (by simp [Tr.pl]) (by rw [em]; simp [Tr.pl])
    have ei : innerF f p 1 = upd (turnF f up 0) p { f p with r := m } := by
      unfold innerF
      simp only [eup]
      rw [if_pos hi, show 1 - 1 = 0 from rfl, em, o1 p hpr]
      simp [Nd.setLink]
    have z1 : (turnF f up 0 0).h = 0 := by rw [o1 0 fun e => h.2.1.ne 0 e rfl]; exact z
    have o2 : Out [p] (turnF f up 0) (innerF f p 1) := by rw [ei]; exact Out.upd (by simp)
    have k2 : Lk0 (innerF f p 1) l p (.n c m (.n d up b)) := by
      refine ⟨o2.lk (o1.lk h.1 hd) fun q hq e => ?_, o2.lk k1 fun q hq e => ?_, by rw [ei, upd_same]; exact h.2.2.1, by rw [ei, upd_same]; rfl, h.2.2.2.2⟩
      · simp at e; subst e
        exact hpl hq
      · simp at e; subst e
        exact hpr (by simpa [Tr.pl] using hq)
    have nd2 : (Tr.n l p (.n c m (.n d up b))).pl.Nodup := by simpa [Tr.pl] using nd
    have z2 : (innerF f p 1 0).h = 0 := by rw [o2 0 (by simp; exact fun e => h.2.2.2.2 e.symm)]; exact z1
    obtain ⟨k3, em3⟩ := turn_right z2 k2 nd2
    refine ⟨(innerF_kv f p 1).trans (KV.turn _ _ _), ?_, _, k3, em3.symm, by simp [Tr.pl]⟩
    refine ((o1.mono ?_).trans (o2.mono ?_)).trans (turnF_out _ _ _ ?_ ?_)
    · intro q hq; rw [show (Tr.n l p (.n (.n c m d) up b)).pl = l.pl ++ p :: (Tr.n (.n c m d) up b).pl from rfl]; simp [hq]
    · intro q hq; simp at hq; subst hq; simp [Tr.pl]
    · simp [Tr.pl]
    · rw [em3]; simp [Tr.pl]
  · have ei : innerF f p 1 = f := by
      unfold innerF
      simp only [eup]
      rw [if_neg hi]
    rw [ei]
    obtain ⟨k3, em3⟩ := turn_right z h nd
    refine ⟨KV.turn _ _ _, turnF_out _ _ _ (by simp [Tr.pl]) (by rw [em3]; simp [Tr.pl]), _, k3, em3.symm, by simp [Tr.pl]⟩
end Go.Proofs.Ytcjakgogdbfagaa
