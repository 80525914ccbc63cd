/- Layer 16: JournalLasts: the run's box, and its two rows of texts. -/
import Derived.Test.YthmjejmignangaaGreatDoorLFu16
namespace Go.Proofs.YthmjejmignangaaGreatDoor
open Go.RowKit
def RowX (w : World) (K X : Nat → Prop) (v : Value) (want : List Bt) (V : World) : Prop := V.ownsRow w.heap.size 9 1 v want.length (svl want) ∧ ∀ b, v.ownBlock = some b → K b ∧ ¬ X b
structure RB (w : World) (px : Option (Nat × Obj)) (rb db : Nat) (K X : Nat → Prop) (jv vs vm : Value) (sure may : List Bt) (V : World) : Prop where
  box : V.heap[rb]? = some (.cells #[.pointer (some ⟨db, 0, none⟩), jv, vs, vm] 56 (0, 0))
  kb : K rb ∧ ¬ X rb ∧ w.heap.size ≤ rb
  s : RowX w K X vs sure V
  m : RowX w K X vm may V
  ns : vs.ownBlock ≠ some rb
  nm : vm.ownBlock ≠ some rb
  ne : ∀ b, vs.ownBlock = some b → vm.ownBlock ≠ some b
  pk : ∀ p o, px = some (p, o) → K p ∧ ¬ X p ∧ V.heap[p]? = some o ∧ p ≠ rb ∧ vs.ownBlock ≠ some p ∧ vm.ownBlock ≠ some p
theorem RB.kt {w : World} {px : Option (Nat × Obj)} {rb db : Nat} {K X S : Nat → Prop} {jv vs vm : Value} {sure may : List Bt} {V V' : World} (h : RB w px rb db K X jv vs vm sure may V) (k : Kt S V V') (hS : ∀ i, S i → ¬ (K i ∧ ¬ X i)) : RB w px rb db K X jv vs vm sure may V' :=
  ⟨(k.block rb (lt_of_block h.box) fun q => hS _ q ⟨h.kb.1, h.kb.2.1⟩).trans h.box, h.kb, ⟨row_keep h.s.1 fun b hb => k.block b (h.s.1.lt b hb).2 fun q => hS _ q (h.s.2 b hb), h.s.2⟩, ⟨row_keep h.m.1 fun b hb => k.block b (h.m.1.lt b hb).2 fun q => hS _ q (h.m.2 b hb), h.m.2⟩, h.ns, h.nm, h.ne, fun p o e => by
    obtain ⟨a, b, c, d⟩ := h.pk p o e
    exact ⟨a, b, (k.block p (lt_of_block c) fun q => hS _ q ⟨a, b⟩).trans c, d⟩⟩
theorem RB.below {w : World} {px : Option (Nat × Obj)} {rb db : Nat} {K X : Nat → Prop} {jv vs vm : Value} {sure may : List Bt} {V V' : World} (h : RB w px rb db K X jv vs vm sure may V) (k : Below V.heap.size V V') : RB w px rb db K X jv vs vm sure may V' :=
  ⟨(k.block rb (lt_of_block h.box)).trans h.box, h.kb, ⟨row_below2 h.s.1 k, h.s.2⟩, ⟨row_below2 h.m.1 k, h.m.2⟩, h.ns, h.nm, h.ne, fun p o e => by
    obtain ⟨a, b, c, d⟩ := h.pk p o e
    exact ⟨a, b, (k.block p (lt_of_block c)).trans c, d⟩⟩
/-- The kept set grows. -/
theorem RB.more {w : World} {px : Option (Nat × Obj)} {rb db : Nat} {K X K' X' : Nat → Prop} {jv vs vm : Value} {sure may : List Bt} {V : World} (h : RB w px rb db K X jv vs vm sure may V) (hk : ∀ i, i < V.heap.size → K i → ¬ X i → K' i ∧ ¬ X' i) : RB w px rb db K' X' jv vs vm sure may V :=
  ⟨h.box, ⟨(hk rb (lt_of_block h.box) h.kb.1 h.kb.2.1).1, (hk rb (lt_of_block h.box) h.kb.1 h.kb.2.1).2, h.kb.2.2⟩, ⟨h.s.1, fun b hb => hk b (h.s.1.lt b hb).2 (h.s.2 b hb).1 (h.s.2 b hb).2⟩, ⟨h.m.1, fun b hb => hk b (h.m.1.lt b hb).2 (h.m.2 b hb).1 (h.m.2 b hb).2⟩, h.ns, h.nm, h.ne, fun p o e => by
    obtain ⟨a, b, c, d⟩ := h.pk p o e
    obtain ⟨a', b'⟩ := hk p (lt_of_block c) a b
    exact ⟨a', b', c, d⟩⟩
theorem JD.fs {d d' : Dk} {g : Jn} {sure may : List Bt} (h : JD d g sure may) (e : d'.fs = d.fs) : JD d' g sure may := by
  obtain ⟨⟨cs, k0, el, h1, h2⟩, h3⟩ := h
  exact ⟨⟨cs, k0, el, by rw [e]; exact h1, h2⟩, h3⟩
/-- A run whose journal is open. -/
structure RJ (w : World) (px : Option (Nat × Obj)) (rb db jb E : Nat) (off : Bool) (fu : Int) (vs vm : Value) (sure may lm : List Bt) (V : World) : Prop where
  ex : ∃ K lb g d, Jst w K jb lb db g d V ∧ RB w px rb db K (fun k => k = lb ∨ k = jb) (.pointer (some ⟨jb, 0, none⟩)) vs vm sure lm V ∧ d.off = off ∧ d.fuse = fu ∧ JD d g sure may ∧ g.ep ≤ E
/-- A run whose disk may be opened. -/
structure RC (w : World) (px : Option (Nat × Obj)) (rb db E : Nat) (vs vm : Value) (sure lm rs : List Bt) (V : World) : Prop where
  ex : ∃ K d jv, DkAt K db d V ∧ (∀ k, k < w.heap.size → K k) ∧ Below w.heap.size w V ∧ FD d rs E ∧ RB w px rb db K (fun _ => False) jv vs vm sure lm V
theorem RJ.bl {w : World} {px : Option (Nat × Obj)} {rb db jb E : Nat} {off : Bool} {fu : Int} {vs vm : Value} {sure may lm : List Bt} {V : World} (h : RJ w px rb db jb E off fu vs vm sure may lm V) : Below w.heap.size w V := by
  obtain ⟨K, lb, g, d, h1, _⟩ := h.ex
  exact h1.2.2
theorem RJ.below {w : World} {px : Option (Nat × Obj)} {rb db jb E : Nat} {off : Bool} {fu : Int} {vs vm : Value} {sure may lm : List Bt} {V V' : World} (h : RJ w px rb db jb E off fu vs vm sure may lm V) (k : Below V.heap.size V V') : RJ w px rb db jb E off fu vs vm sure may lm V' := by
  obtain ⟨K, lb, g, d, h1, h2, h3⟩ := h.ex
  exact ⟨K, lb, g, d, h1.below k, h2.below k, h3⟩
theorem RC.bl {w : World} {px : Option (Nat × Obj)} {rb db E : Nat} {vs vm : Value} {sure lm rs : List Bt} {V : World} (h : RC w px rb db E vs vm sure lm rs V) : Below w.heap.size w V := by
  obtain ⟨K, d, jv, h1, h2, h3, _⟩ := h.ex
  exact h3
theorem RC.below {w : World} {px : Option (Nat × Obj)} {rb db E : Nat} {vs vm : Value} {sure lm rs : List Bt} {V V' : World} (h : RC w px rb db E vs vm sure lm rs V) (k : Below V.heap.size V V') : RC w px rb db E vs vm sure lm rs V' := by
  obtain ⟨K, d, jv, h1, h2, h3, h4, h5⟩ := h.ex
  exact ⟨K, d, jv, h1.below k, h2, h3.trans (k.mono h3.size), h4, h5.below k⟩
theorem RJ.drop {w : World} {px : Option (Nat × Obj)} {rb db jb E : Nat} {off : Bool} {fu : Int} {vs vm : Value} {sure may lm : List Bt} {V : World} (h : RJ w px rb db jb E off fu vs vm sure may lm V) : RJ w none rb db jb E off fu vs vm sure may lm V := by
  obtain ⟨K, lb, g, d, h1, h2, h3⟩ := h.ex
  exact ⟨K, lb, g, d, h1, ⟨h2.box, h2.kb, h2.s, h2.m, h2.ns, h2.nm, h2.ne, fun p o e => by cases e⟩, h3⟩
theorem RC.drop {w : World} {px : Option (Nat × Obj)} {rb db E : Nat} {vs vm : Value} {sure lm rs : List Bt} {V : World} (h : RC w px rb db E vs vm sure lm rs V) : RC w none rb db E vs vm sure lm rs V := by
  obtain ⟨K, d, jv, h1, h2, h3, h4, h5⟩ := h.ex
  exact ⟨K, d, jv, h1, h2, h3, h4, ⟨h5.box, h5.kb, h5.s, h5.m, h5.ns, h5.nm, h5.ne, fun p o e => by cases e⟩⟩
theorem RJ.px {w : World} {p : Nat} {o : Obj} {rb db jb E : Nat} {off : Bool} {fu : Int} {vs vm : Value} {sure may lm : List Bt} {V : World} (h : RJ w (some (p, o)) rb db jb E off fu vs vm sure may lm V) : V.heap[p]? = some o := by
  obtain ⟨K, lb, g, d, h1, h2, h3⟩ := h.ex
  exact (h2.pk p o rfl).2.2.1
/-- What the box holds, and the rows. -/
def BoxAt (rb : Nat) (a b c d : Value) (V : World) : Prop := (V.cell? ⟨rb, 0, none⟩ = some a ∧ V.cell? ⟨rb, 1, none⟩ = some b ∧ V.cell? ⟨rb, 2, none⟩ = some c ∧ V.cell? ⟨rb, 3, none⟩ = some d) ∧ (∀ k, V.frozen? ⟨rb, k, none⟩ = false) ∧ rb < V.heap.size
theorem RB.at_ {w : World} {px : Option (Nat × Obj)} {rb db : Nat} {K X : Nat → Prop} {jv vs vm : Value} {sure may : List Bt} {V : World} (h : RB w px rb db K X jv vs vm sure may V) : BoxAt rb (.pointer (some ⟨db, 0, none⟩)) jv vs vm V :=
  ⟨⟨Lib.cell_of_heap h.box 0, Lib.cell_of_heap h.box 1, Lib.cell_of_heap h.box 2, Lib.cell_of_heap h.box 3⟩, fun k => Lib.frozen_of_heap h.box k, lt_of_block h.box⟩
theorem RJ.at_ {w : World} {px : Option (Nat × Obj)} {rb db jb E : Nat} {off : Bool} {fu : Int} {vs vm : Value} {sure may lm : List Bt} {V : World} (h : RJ w px rb db jb E off fu vs vm sure may lm V) : BoxAt rb (.pointer (some ⟨db, 0, none⟩)) (.pointer (some ⟨jb, 0, none⟩)) vs vm V := by
  obtain ⟨K, lb, g, d, h1, h2, _⟩ := h.ex
  exact h2.at_
theorem RJ.rows {w : World} {px : Option (Nat × Obj)} {rb db jb E : Nat} {off : Bool} {fu : Int} {vs vm : Value} {sure may lm : List Bt} {V : World} (h : RJ w px rb db jb E off fu vs vm sure may lm V) : (V.ownsRow w.heap.size 9 1 vs sure.length (svl sure)) ∧ (V.ownsRow w.heap.size 9 1 vm lm.length (svl lm)) := by
  obtain ⟨K, lb, g, d, h1, h2, _⟩ := h.ex
  exact ⟨h2.s.1, h2.m.1⟩
/-- Cut. -/
theorem RJ.cut {w : World} {px : Option (Nat × Obj)} {rb db jb E : Nat} {off : Bool} {fu : Int} {vs vm : Value} {sure may lm : List Bt} {V : World} (h : RJ w px rb db jb E off fu vs vm sure may lm V) (k : Int) (hk : -9223372036854775808 ≤ k ∧ k ≤ 9223372036854775807) :
    Calls Tryz.prog 42 #[.pointer (some ⟨db, 0, none⟩), .int .i64 k] V fun e w' => e = .returned (.tuple #[]) ∧ Hid (RJ w px rb db jb E off k vs vm sure may lm w') := by
  obtain ⟨K, lb, g, d, h1, h2, h3, h4, h5, h6⟩ := h.ex
  refine (cut15_any h1.2.1.dk k hk).mono fun e w' ⟨e1, e2⟩ => ⟨e1, hidb ?_⟩
  obtain ⟨q1, q2⟩ := e2.out
  obtain ⟨⟨_, l1⟩, _, _, l2⟩ := h1.2.1.rd
  have hj : JnAt K jb lb db fL g { d with fuse := k } w' := ⟨q1, (q2.block _ l2 fun x => x h1.2.1.kl).trans h1.2.1.lg, (q2.block _ l1 fun x => x h1.2.1.kj).trans h1.2.1.jn, h1.2.1.kj, h1.2.1.kl, h1.2.1.jl⟩
  exact ⟨K, lb, g, _, jst_step h1 hj (q2.or16 fun i hi => .inl hi), h2.kt q2 fun i hi x => hi x.1, h3, rfl, h5.fs rfl, h6⟩
/-- Append. -/
theorem RJ.append {w : World} {px : Option (Nat × Obj)} {rb db jb E : Nat} {fu : Int} {vs vm : Value} {sure may lm : List Bt} {V : World} (h : RJ w px rb db jb E false fu vs vm sure may lm V) (hE : E ≤ 1000000) (a : Option Addr) (n c : Nat) (b : Bt) (hb : BsX V a n c b) (hn : n ≤ 400) :
    (Calls Tryz.prog 14 #[.pointer (some ⟨jb, 0, none⟩), .slice a n c] V fun e w' => e = .returned (.int .i64 0) ∧ Hid (∃ fu', RJ w px rb db jb (E + 1) false fu' vs vm sure (may ++ [b]) lm w')) ∨
    (Calls Tryz.prog 14 #[.pointer (some ⟨jb, 0, none⟩), .slice a n c] V fun e w' => e = .returned (.int .i64 7) ∧ Hid (∃ fu', RJ w px rb db jb (E + 1) false fu' vs vm sure may lm w')) ∨
    (Calls Tryz.prog 14 #[.pointer (some ⟨jb, 0, none⟩), .slice a n c] V fun e w' => e = .returned (.int .i64 9) ∧ Hid (∃ fu', RJ w px rb db jb (E + 1) true fu' vs vm sure may lm w')) := by
  obtain ⟨K, lb, g, d, h1, h2, h3, h4, h5, h6⟩ := h.ex
  obtain ⟨ok, _, c0, c1⟩ := h5.small h1.2.1.dk h3 (by omega)
  have hbl := hb.1
  obtain ⟨a1, a2, a3, a4, a5⟩ := h5.append h3 b (by omega) (by omega) (by omega)
  have key := jappend_law h1 ok a n c b hb (by omega)
  have hrb : ∀ V', JKt K lb V V' → RB w px rb db K (fun k => k = lb ∨ k = jb) (.pointer (some ⟨jb, 0, none⟩)) vs vm sure lm V' := fun V' k => h2.kt k fun i hi x => hi.elim (fun y => y x.1) fun y => x.2 (.inl y)
  rcases a5 with ⟨x1, x2, x3⟩ | ⟨x1, x2, x3, x4⟩ | ⟨x1, x2, x3⟩
  · exact .inl (key.mono fun e w' ⟨e1, e2⟩ => ⟨by rw [e1, x1], hidb ⟨_, K, lb, _, _, e2.out.1, hrb _ e2.out.2, x2, rfl, x3, by omega⟩⟩)
  · exact .inr (.inl (key.mono fun e w' ⟨e1, e2⟩ => ⟨by rw [e1, x1], hidb ⟨_, K, lb, _, _, e2.out.1, hrb _ e2.out.2, x2, rfl, x3, by omega⟩⟩))
  · exact .inr (.inr (key.mono fun e w' ⟨e1, e2⟩ => ⟨by rw [e1, x1], hidb ⟨_, K, lb, _, _, e2.out.1, hrb _ e2.out.2, x2, rfl, x3, by omega⟩⟩))
/-- Sync. -/
theorem RJ.sync {w : World} {px : Option (Nat × Obj)} {rb db jb E : Nat} {fu : Int} {vs vm : Value} {sure may lm : List Bt} {V : World} (h : RJ w px rb db jb E false fu vs vm sure may lm V) :
    (Calls Tryz.prog 15 #[.pointer (some ⟨jb, 0, none⟩)] V fun e w' => e = .returned (.int .i64 0) ∧ Hid (∃ K lb g d, Jst w K jb lb db g d w' ∧ RB w px rb db K (fun k => k = lb ∨ k = jb) (.pointer (some ⟨jb, 0, none⟩)) vs vm sure lm w' ∧ d.off = false ∧ JD d g (sure ++ may) [] ∧ g.ep ≤ E)) ∨
    (Calls Tryz.prog 15 #[.pointer (some ⟨jb, 0, none⟩)] V fun e w' => e = .returned (.int .i64 9) ∧ Hid (∃ fu', RJ w px rb db jb E true fu' vs vm sure may lm w')) := by
  obtain ⟨K, lb, g, d, h1, h2, h3, h4, h5, h6⟩ := h.ex
  obtain ⟨s1, s2, s3, s4⟩ := h5.sync h3
  have key := jsync_any16 h1.2.1
  have hrb : ∀ V', JKt K lb V V' → RB w px rb db K (fun k => k = lb ∨ k = jb) (.pointer (some ⟨jb, 0, none⟩)) vs vm sure lm V' := fun V' k => h2.kt k fun i hi x => hi.elim (fun y => y x.1) fun y => x.2 (.inl y)
  rcases s4 with ⟨x1, x2, x3⟩ | ⟨x1, x2, x3⟩
  · exact .inl (key.mono fun e w' ⟨e1, e2⟩ => ⟨by rw [e1, x1], hidb ⟨K, lb, g, _, jst_step h1 e2.out.1 e2.out.2, hrb _ e2.out.2, x2, x3, h6⟩⟩)
  · exact .inr (key.mono fun e w' ⟨e1, e2⟩ => ⟨by rw [e1, x1], hidb ⟨_, K, lb, g, _, jst_step h1 e2.out.1 e2.out.2, hrb _ e2.out.2, x2, rfl, x3, h6⟩⟩)
theorem RJ.crash {w : World} {px : Option (Nat × Obj)} {rb db jb E : Nat} {off : Bool} {fu : Int} {vs vm : Value} {sure may lm : List Bt} {V : World} (h : RJ w px rb db jb E off fu vs vm sure may lm V) (fa : Option Addr) (fn fc : Nat) (fates : List Int) (hf : ∀ K : Nat → Prop, (∀ k, k < w.heap.size → K k) → FatO (fun i => ¬ K i) V (.slice fa fn fc) fates) :
    Calls Tryz.prog 23 #[.pointer (some ⟨db, 0, none⟩), .slice fa fn fc] V fun e w' => e = .returned (.tuple #[]) ∧ Hid (∃ k, k ≤ may.length ∧ RC w px rb db E vs vm sure lm (sure ++ may.take k) w') := by
  obtain ⟨K, lb, g, d, h1, h2, h3, h4, h5, h6⟩ := h.ex
  obtain ⟨k, hk, hfd⟩ := h5.crash fates
  refine (dcrash_any h1.2.1.dk fa fn fc fates (hf K fun k hk => (h1.1 k hk).1)).mono fun e w' ⟨e1, e2⟩ => ⟨e1, hidb ⟨k, hk, K, _, _, e2.out.1, fun k hk => (h1.1 k hk).1, ?_, hfd.mono (by omega), (h2.kt e2.out.2 fun i hi x => hi x.1).more fun i _ x _ => ⟨x, id⟩⟩⟩
  exact h1.2.2.trans (Kt.low e2.out.2 h1.2.2.size fun i hi hn => hn (h1.1 i hi).1)
/-- Without a crash. -/
theorem RJ.calm {w : World} {px : Option (Nat × Obj)} {rb db jb E : Nat} {vs vm : Value} {sure may lm : List Bt} {V : World} (h : RJ w px rb db jb E false (-1) vs vm sure may lm V) : RC w px rb db E vs vm sure lm (sure ++ may) V := by
  obtain ⟨K, lb, g, d, h1, h2, h3, h4, h5, h6⟩ := h.ex
  exact ⟨K, d, _, h1.2.1.dk, fun k hk => (h1.1 k hk).1, h1.2.2, (h5.calm h3 h4).mono (by omega), h2.more fun i _ x _ => ⟨x, id⟩⟩
/-- A field of the box is stored anew: a row that is the call's own. -/
theorem box_set {rb : Nat} {cs : Array Value} {V : World} (h : V.heap[rb]? = some (.cells cs 56 (0, 0))) (k : Nat) (v : Value) : (V.setCell ⟨rb, k, none⟩ v).heap[rb]? = some (.cells (cs.setIfInBounds k v) 56 (0, 0)) := heap_setCell_same _ _ _ _ _ _ h
/-- Open. -/
theorem RC.opens {w : World} {px : Option (Nat × Obj)} {rb db E : Nat} {vs vm : Value} {sure lm rs : List Bt} {V : World} (h : RC w px rb db E vs vm sure lm rs V) (hE : E ≤ 1000000) :
    Calls Tryz.prog 12 #[.pointer (some ⟨db, 0, none⟩), .string ⟨#[108, 111, 103]⟩] V fun e W => ∃ jb a c, e = .returned (.tuple #[.pointer (some ⟨jb, 0, none⟩), .slice a rs.length c, .int .i64 0]) ∧ rs.length ≤ 65536 ∧ Hid (∃ K lb g d jv, Jst w K jb lb db g d W ∧ RB w px rb db K (fun k => k = lb ∨ k = jb) jv vs vm sure lm W ∧ d.off = false ∧ d.fuse = -1 ∧ JD d g rs [] ∧ g.ep ≤ E + 1 ∧ RecW K a rs W) := by
  obtain ⟨K, d, jv, h1, h2, h3, h4, h5⟩ := h.ex
  obtain ⟨o1, o2, o3, o4, o5, o6, o7, o8, o9, o10⟩ := h4.opened (by omega)
  refine (open_any16 h1 fL (by decide) kn_name o2).mono fun e W hh => ?_
  rcases hh with ⟨n1, n2, _⟩ | ⟨_, z, jb, lb, a, n, c, cs, q1, q2, q3, rfl, hH⟩
  · rcases o1 with x | x
    · exact absurd x n1
    · exact absurd x n2
  obtain ⟨p1, p2, p3, p4, p5⟩ := hH.out
  rw [o3] at p3 p4
  obtain ⟨rfl, hR⟩ := recs_own p2 p3 p4
  have hz := h3.size
  have hJ : Jst w (fun k => K k ∨ (z ≤ k ∧ k < W.heap.size)) jb lb db (opJ d fL) (opD d fL) W := ⟨fun k hk => ⟨.inl (h2 k hk), by omega⟩, p1, h3.trans (Kt.low p5 h3.size fun i hi hn => hn (h2 i hi))⟩
  have hfew := (o5.small p1.dk o6 (by omega)).2.1
  rw [List.append_nil] at hfew
  refine ⟨jb, a, c, rfl, hfew, hidb ⟨_, lb, opJ d fL, opD d fL, jv, hJ, ?_, o6, o7, o5, by omega, hR.mono fun k hk => .inr ⟨by omega, hk.2⟩⟩⟩
  have hk := h5.kt p5 (fun i hi x => hi x.1)
  have hbx := lt_of_block h5.box
  refine ⟨hk.box, ⟨.inl hk.kb.1, by omega, hk.kb.2.2⟩, ⟨hk.s.1, fun b hb => ⟨.inl (hk.s.2 b hb).1, ?_⟩⟩, ⟨hk.m.1, fun b hb => ⟨.inl (hk.m.2 b hb).1, ?_⟩⟩, hk.ns, hk.nm, hk.ne, fun p o e => ?_⟩
  · have := (h5.s.1.lt b hb).2
    omega
  · have := (h5.m.1.lt b hb).2
    omega
  · obtain ⟨a', b', c', d'⟩ := hk.pk p o e
    have := lt_of_block (h5.pk p o e).2.2.1
    exact ⟨.inl a', by omega, c', d'⟩
end Go.Proofs.YthmjejmignangaaGreatDoor
