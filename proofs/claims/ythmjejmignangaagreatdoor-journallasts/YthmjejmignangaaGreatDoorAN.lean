/- append onto an owned slice of elements of any size. Layer 15, plain: what a disk is, and what its calls come to. Layer 15: a map of sectors that lies in a block of its own. -/
import Derived.Test.YthmjejmignangaaGreatDoorPlain
import Derived.Maps.AppendAt
import Derived.OwnWalk
import Derived.Test.YthmjejmignangaaGreatDoorProg
import Derived.Deep.RegionLaw
import Derived.BigQuiet
import Derived.Shelf.Abstract
import Derived.Outline
import Derived.Deep.LoopGhost
import Derived.Maps.OwnSet
import Derived.Maps.Ext
import Derived.Maps.RangeWalk
import Derived.Lib.Builder
namespace Go.Proofs.YthmjejmignangaaGreatDoor
open Go.RowKit
structure ElemN (P : Program) (t e : TypeId) (size bytes : Nat) : Prop where
  ht : P.underlying t = some (.slice e)
  hi : ∃ i z, P.info? e = some i ∧ i.zero = some z ∧ i.size = size ∧ i.bytes = bytes ∧ z.cells.size = size
  pos : 0 < size
/-- A slice whose cells these are. -/
def Lies (w : World) (y : Value) (m : Nat) (news : List Value) : Prop :=
  (∃ c, y = .slice none 0 c ∧ m = 0 ∧ news = []) ∨ ∃ ad c, y = .slice (some ad) m c ∧ ∀ j u, news[j]? = some u → w.cell? (ad.add j) = some u
theorem Lies.keep {w w' : World} {y : Value} {m : Nat} {news : List Value} (h : Lies w y m news) (hk : ∀ a v, w.cell? a = some v → w'.cell? a = some v) : Lies w' y m news := by
  rcases h with h | ⟨ad, c, rfl, h⟩
  · exact .inl h
  · exact .inr ⟨ad, c, rfl, fun j u hu => hk _ _ (h j u hu)⟩
section
variable {P : Program} (w : World)
theorem run_appN {t ty e : TypeId} {size bytes : Nat} (E : ElemN P t e size bytes) (base : Nat) (v : Value) (n : Nat) (xs : List Value) (hown : w.ownsRow base e size v n xs) (y : Value) (m : Nat) (news : List Value) (hy : Lies w y m news) (hl : news.length = m * size) (h1 : ∀ u ∈ news, u.oneCell' = true)
    (h63 : n + m ≤ maxLen) (hbytes : (n + m) * bytes ≤ 140737488355328) (hbase : base ≤ w.heap.size) :
    ∃ v' w', (Builtin.append_ #[t, t] ty #[v, y]).run P w = .ok v' w' ∧ w'.ownsRow base e size v' (n + m) (xs ++ news) ∧ Step w v w' v' := by
  obtain ⟨ht, ⟨i, z, hi, hz, hsize, hby, hzs⟩, hpos⟩ := E
  rcases hy with ⟨c, rfl, rfl, rfl⟩ | ⟨ad, c, rfl, hnews⟩
  · refine ⟨v, w, ?_, by simpa using hown, Step.refl _ _⟩
    have hs : Src P i.size t (.slice none 0 c) 0 [] w := Src.ofNil w ht c
    have hc : (Builtin.firstCells i.size 0 (.slice none 0 c)).run P w = .ok #[] w := hs.cells
    rcases hown.2 with ⟨rfl, h0⟩ | ⟨g, cap, cur, rfl, hbg, hg, hnc, hcm, hcs, htake⟩
    · simp [Builtin.append_, run_underlying ht, sizeOf, typeInfo, hi, hs.len, hc]
    · have := run_append_room_src (P := P) w t t ty e i ht hi g 0 n cap (.slice none 0 c) 0 [] hs (by omega) (fun j hj => by simp at hj) (fun j hj => by simp at hj)
      rw [this]
      rfl
  · obtain ⟨v', w', hr, h2, h3, h4, h5⟩ := run_append_own_at (P := P) w base t ty e i z size bytes ht hi hz hsize hby hzs hpos v n xs hown ad m c news hl hnews h1 h63 hbytes hbase
    refine ⟨v', w', hr, h2, h3, ?_⟩
    rcases h5 with h | h
    · exact .inl h
    · exact .inr ⟨_, h, Nat.le_refl _⟩
/-- append onto an empty literal: nothing that was there turns. -/
theorem run_app0 {t ty e : TypeId} {size bytes : Nat} (E : ElemN P t e size bytes) (base g : Nat) (hg : base ≤ g) (hgl : w.heap[g]? = some (.cells #[] e (0, 0))) (y : Value) (m : Nat) (news : List Value) (hy : Lies w y m news) (hl : news.length = m * size) (h1 : ∀ u ∈ news, u.oneCell' = true)
    (h63 : m ≤ maxLen) (hbytes : m * bytes ≤ 140737488355328) (hbase : base ≤ w.heap.size) :
    ∃ v' w', (Builtin.append_ #[t, t] ty #[.slice (some ⟨g, 0, none⟩) 0 0, y]).run P w = .ok v' w' ∧ w'.ownsRow base e size v' m news ∧ Below w.heap.size w w' := by
  obtain ⟨ht, ⟨i, z, hi, hz, hsize, hby, hzs⟩, hpos⟩ := E
  have hrow0 : w.ownsRow base e size (.slice (some ⟨g, 0, none⟩) 0 0) 0 [] := ⟨by simp, .inr ⟨g, 0, #[], rfl, hg, hgl, Nat.le_refl _, Nat.zero_le _, by simp, by simp⟩⟩
  by_cases hm : m = 0
  · subst hm
    obtain rfl : news = [] := List.eq_nil_of_length_eq_zero (by simpa using hl)
    have hs : Src P i.size t y 0 [] w := by
      rcases hy with ⟨c, rfl, _, _⟩ | ⟨ad, c, rfl, hn⟩
      · exact Src.ofNil w ht c
      · exact Src.ofSlice w ht ad 0 c [] (by simp) (fun j u h => by simp at h) (fun u h => by cases h)
    have := run_append_room_src (P := P) w t t ty e i ht hi g 0 0 0 y 0 [] hs (Nat.le_refl _) (fun j hj => by simp at hj) (fun j hj => by simp at hj)
    exact ⟨_, w, by rw [this]; rfl, hrow0, Below.refl _ _⟩
  · rcases hy with ⟨c, rfl, rfl, rfl⟩ | ⟨ad, c, rfl, hn⟩
    · exact absurd rfl hm
    have hs : Src P i.size t (.slice (some ad) m c) m news w := Src.ofSlice w ht ad m c news (by rw [hsize]; exact hl) hn h1
    have hsmall : m ≤ 9223372036854775807 := by simp only [maxLen] at h63; omega
    have hr := run_append_grow_src (P := P) w t t ty e i z ht hi hz (some ⟨g, 0, none⟩) 0 0 [] (run_firstCells_some w.drew i.size 0 ⟨g, 0, none⟩ 0 0 [] (by simp) (fun j u h => by simp at h)) (.slice (some ad) m c) m news hs (by omega) (by omega) (growslice_fits (by omega) (by rw [hby]; simpa using hbytes))
    simp only [Nat.zero_add, List.nil_append] at hr
    have hge := grownCap_ge w m 0 e
    have hcm : grownCap w m 0 e ≤ maxLen := grownCap_le_maxLen w m 0 e h63
    refine ⟨_, _, hr, ⟨hl, .inr ⟨w.heap.size, _, _, rfl, hbase, heap_alloc_new w.drew _, hge, hcm, ?_, ?_⟩⟩, (Below.refl _ w).drew.alloc (Nat.le_refl _) _⟩
    · simp only [Array.size_append, List.size_toArray, size_zeroCells, hzs, hl]
      rw [← Nat.add_mul]
      congr 1
      omega
    · rw [Array.toList_append]
      simp only [← hl]
      exact List.take_left
theorem wp_app0 {o : Oper} {a : Act} {K : Act → World → Prop} {Q : Exit → Act → World → Prop} (s x : Operand) (t : TypeId) (ho : o.op = .call { callee := .builtin .append, args := #[s, x], argTypes := #[t, t] })
    {e : TypeId} {size bytes : Nat} (E : ElemN P t e size bytes) (base g : Nat) (hg : base ≤ g) (hgl : w.heap[g]? = some (.cells #[] e (0, 0))) (hv : a.eval s = .slice (some ⟨g, 0, none⟩) 0 0) (y : Value) (hyv : a.eval x = y) (m : Nat) (news : List Value) (hy : Lies w y m news) (hl : news.length = m * size) (h1 : ∀ u ∈ news, u.oneCell' = true)
    (h63 : m ≤ maxLen) (hbytes : m * bytes ≤ 140737488355328) (hbase : base ≤ w.heap.size)
    (h : ∀ v' w', w'.ownsRow base e size v' m news → Below w.heap.size w w' → K (a.put o.dst v') w') : o.wp P a w K Q := by
  obtain ⟨v', w', hr, h2, h3⟩ := run_app0 (P := P) w (ty := o.type) E base g hg hgl y m news hy hl h1 h63 hbytes hbase
  unfold Oper.wp execOp
  simp only [ho, resolve, invoke, builtin, Sem.run_bind, Sem.run_pure, Result.andThen_ok, List.map_toArray, List.map_cons, List.map_nil, hv, hyv, hr]
  exact h v' w' h2 h3
theorem wp_appN {o : Oper} {a : Act} {K : Act → World → Prop} {Q : Exit → Act → World → Prop} (s x : Operand) (t : TypeId) (ho : o.op = .call { callee := .builtin .append, args := #[s, x], argTypes := #[t, t] })
    {e : TypeId} {size bytes : Nat} (E : ElemN P t e size bytes) (base : Nat) (v : Value) (n : Nat) (xs : List Value) (hv : a.eval s = v) (hown : w.ownsRow base e size v n xs) (y : Value) (hyv : a.eval x = y) (m : Nat) (news : List Value) (hy : Lies w y m news) (hl : news.length = m * size) (h1 : ∀ u ∈ news, u.oneCell' = true)
    (h63 : n + m ≤ maxLen) (hbytes : (n + m) * bytes ≤ 140737488355328) (hbase : base ≤ w.heap.size)
    (h : ∀ v' w', w'.ownsRow base e size v' (n + m) (xs ++ news) → Step w v w' v' → K (a.put o.dst v') w') : o.wp P a w K Q := by
  obtain ⟨v', w', hr, h2, h3⟩ := run_appN (P := P) w (ty := o.type) E base v n xs hown y m news hy hl h1 h63 hbytes hbase
  unfold Oper.wp execOp
  simp only [ho, resolve, invoke, builtin, Sem.run_bind, Sem.run_pure, Result.andThen_ok, List.map_toArray, List.map_cons, List.map_nil, hv, hyv, hr]
  exact h v' w' h2 h3
theorem wpList_appN {ops : Array Oper} {rest : List Oper} {o : Oper} {a : Act} {Q : Exit → Act → World → Prop} (hgd : o.guard = none) (s x : Operand) (t : TypeId) (ho : o.op = .call { callee := .builtin .append, args := #[s, x], argTypes := #[t, t] })
    {e : TypeId} {size bytes : Nat} (E : ElemN P t e size bytes) (base : Nat) (v : Value) (n : Nat) (xs : List Value) (hv : a.eval s = v) (hown : w.ownsRow base e size v n xs) (y : Value) (hyv : a.eval x = y) (m : Nat) (news : List Value) (hy : Lies w y m news) (hl : news.length = m * size) (h1 : ∀ u ∈ news, u.oneCell' = true)
    (h63 : n + m ≤ maxLen) (hbytes : (n + m) * bytes ≤ 140737488355328) (hbase : base ≤ w.heap.size)
    (h : ∀ v' w', w'.ownsRow base e size v' (n + m) (xs ++ news) → Step w v w' v' → wpList P ops Q rest (a.put o.dst v') w') : wpList P ops Q (o :: rest) a w :=
  wpList_plain hgd fun _ hK => wp_appN w s x t ho E base v n xs hv hown y hyv m news hy hl h1 h63 hbytes hbase fun v' w' h2 h3 => hK _ _ (h v' w' h2 h3)
theorem step_appN {ops : Array Oper} {o : Oper} {a : Act} {K : Act → World → Prop} {Q : Exit → Act → World → Prop} {X : Prop} (hgd : o.guard = none) (s x : Operand) (t : TypeId) (ho : o.op = .call { callee := .builtin .append, args := #[s, x], argTypes := #[t, t] })
    {e : TypeId} {size bytes : Nat} (E : ElemN P t e size bytes) (base : Nat) (v : Value) (n : Nat) (xs : List Value) (hv : a.eval s = v) (hown : w.ownsRow base e size v n xs) (y : Value) (hyv : a.eval x = y) (m : Nat) (news : List Value) (hy : Lies w y m news) (hl : news.length = m * size) (h1 : ∀ u ∈ news, u.oneCell' = true)
    (h63 : n + m ≤ maxLen) (hbytes : (n + m) * bytes ≤ 140737488355328) (hbase : base ≤ w.heap.size)
    (h : ∀ v' w', w'.ownsRow base e size v' (n + m) (xs ++ news) → Step w v w' v' → K (a.put o.dst v') w') :
    if Region.wanted o (yielded ops a.tmps) = true then Oper.wp P o a w K Q else X := by
  have hw : Region.wanted o (yielded ops a.tmps) = true := by simp [Region.wanted, hgd]
  rw [if_pos hw]
  exact wp_appN w s x t ho E base v n xs hv hown y hyv m news hy hl h1 h63 hbytes hbase h
end
/-- An owned row as a slice and its cells. -/
theorem row_form {w : World} {base n size : Nat} {e : TypeId} {v : Value} {xs : List Value} (h : w.ownsRow base e size v n xs) : ∃ a c, v = .slice a n c ∧ n ≤ c ∧ c ≤ maxLen ∧ ((a = none ∧ n = 0 ∧ c = 0) ∨ ∃ g, a = some ⟨g, 0, none⟩ ∧ base ≤ g ∧ g < w.heap.size ∧ ∀ j u, xs[j]? = some u → w.cell? ⟨g, j, none⟩ = some u) := by
  rcases h.2 with ⟨rfl, rfl⟩ | ⟨g, cap, cur, rfl, hg, hh, hnc, hcm, r⟩
  · exact ⟨none, 0, rfl, Nat.le_refl _, Nat.zero_le _, .inl ⟨rfl, rfl, rfl⟩⟩
  · refine ⟨_, _, rfl, hnc, hcm, .inr ⟨g, rfl, hg, (Array.getElem?_eq_some_iff.1 hh).1, fun j u hu => ?_⟩⟩
    have := World.ownsRow.cells h (g := g) rfl j u hu
    rw [Addr.add_lit] at this
    simpa using this
theorem row_below2 {w w' : World} {base k size : Nat} {e : TypeId} {v : Value} {xs : List Value} (h : w.ownsRow base e size v k xs) (hb : Below w.heap.size w w') : w'.ownsRow base e size v k xs := by
  refine ⟨h.1, ?_⟩
  rcases h.2 with h2 | ⟨g, cap, cur, rfl, hg, hh, r⟩
  · exact .inl h2
  · exact .inr ⟨g, cap, cur, rfl, hg, by rw [hb.block g (Array.getElem?_eq_some_iff.1 hh).1]; exact hh, r⟩
/-- An empty literal. -/
theorem row_lit0 (w : World) (e : TypeId) (size : Nat) (base : Nat) (hb : base ≤ w.heap.size) : (w.alloc (.cells #[] e)).ownsRow base e size (.slice (some ⟨w.heap.size, 0, none⟩) 0 0) 0 [] :=
  ⟨by simp, .inr ⟨w.heap.size, 0, #[], rfl, hb, heap_alloc_new w _, Nat.le_refl _, Nat.zero_le _, by simp, by simp⟩⟩
end Go.Proofs.YthmjejmignangaaGreatDoor
namespace Go.Proofs.YthmjejmignangaaGreatDoor
open Go.RowKit
theorem hidb {p : Prop} (h : p) : Hid p := h
abbrev Bt := List UInt8
abbrev sv (b : Bt) : Value := .string ⟨b.toArray⟩
/-- A sector. -/
structure Sec where
  b : Bt
  bad : Bool
  deriving DecidableEq
def Sec.c (x : Sec) : List Value := [sv x.b, .bool x.bad]
def Sec.v (x : Sec) : Value := .agg #[sv x.b, .bool x.bad]
def noSec : Sec := ⟨[], false⟩
def badSec : Sec := ⟨[], true⟩
def padB (b : Bt) : Bt := b ++ List.replicate (64 - b.length) 0
def fillS (b : Bt) : Sec := ⟨padB b, false⟩
/-- Of a sector: what was sure, and what was written since. -/
structure Cl where
  s : Sec
  n : Option Sec
def Cl.now (c : Cl) : Sec := c.n.getD c.s
structure Fl where
  name : Bt
  cs : List Cl
structure Dk where
  most : Int
  fs : List Fl
  fuse : Int
  off : Bool
def Fl.sure (f : Fl) : List Sec := f.cs.map Cl.s
def Fl.wr (f : Fl) (k : Nat) : Option Sec := (f.cs[k]?).bind Cl.n
/-- Rows of sectors, cell by cell. -/
def secCs (l : List Sec) : List Value := l.flatMap Sec.c
theorem secCs_length (l : List Sec) : (secCs l).length = l.length * 2 := by
  induction l with
  | nil => rfl
  | cons x l ih =>
    have : secCs (x :: l) = x.c ++ secCs l := rfl
    rw [this, List.length_append, ih, List.length_cons]
    show 2 + _ = _
    omega
theorem secCs_app (l m : List Sec) : secCs (l ++ m) = secCs l ++ secCs m := List.flatMap_append ..
theorem secCs_at {l : List Sec} {k : Nat} {x : Sec} (h : l[k]? = some x) : (secCs l)[k * 2]? = some (sv x.b) ∧ (secCs l)[k * 2 + 1]? = some (.bool x.bad) := by
  induction l generalizing k with
  | nil => simp at h
  | cons y l ih =>
    have e : secCs (y :: l) = sv y.b :: .bool y.bad :: secCs l := rfl
    cases k with
    | zero => rw [List.getElem?_cons_zero] at h; injection h with h; subst h; rw [e]; exact ⟨rfl, rfl⟩
    | succ k =>
      rw [List.getElem?_cons_succ] at h
      obtain ⟨h1, h2⟩ := ih h
      rw [e, show (k + 1) * 2 = k * 2 + 1 + 1 by omega]
      refine ⟨?_, ?_⟩
      · rw [List.getElem?_cons_succ, List.getElem?_cons_succ]; exact h1
      · rw [List.getElem?_cons_succ, List.getElem?_cons_succ]; exact h2
theorem secCs_set {l : List Sec} {k : Nat} (x : Sec) (h : k < l.length) : secCs (l.set k x) = ((secCs l).set (k * 2) (sv x.b)).set (k * 2 + 1) (.bool x.bad) := by
  induction l generalizing k with
  | nil => simp at h
  | cons y l ih =>
    have e : ∀ (y : Sec) l, secCs (y :: l) = sv y.b :: .bool y.bad :: secCs l := fun _ _ => rfl
    cases k with
    | zero => rw [List.set_cons_zero, e, e]; rfl
    | succ k =>
      rw [List.set_cons_succ, e, e, ih (by simpa using h), show (k + 1) * 2 = k * 2 + 1 + 1 by omega, show k * 2 + 1 + 1 + 1 = (k * 2 + 1) + 1 + 1 by omega]
      rfl
theorem secCs_take {l : List Sec} {n : Nat} : (secCs l).take (n * 2) = secCs (l.take n) := by
  induction l generalizing n with
  | nil => simp [secCs]
  | cons y l ih =>
    have e : ∀ (y : Sec) l, secCs (y :: l) = sv y.b :: .bool y.bad :: secCs l := fun _ _ => rfl
    cases n with
    | zero => rfl
    | succ n => rw [e, show (n + 1) * 2 = n * 2 + 1 + 1 by omega, List.take_succ_cons, List.take_succ_cons, ih]; rfl
theorem secCs_one (l : List Sec) : ∀ u ∈ secCs l, u.oneCell' = true := by
  intro u hu
  obtain ⟨x, _, hx⟩ := List.mem_flatMap.1 hu
  rcases List.mem_cons.1 hx with rfl | hx
  · rfl
  · rw [List.mem_singleton] at hx; subst hx; rfl
theorem padB_length {b : Bt} (h : b.length ≤ 64) : (padB b).length = 64 := by simp [padB]; omega
theorem fill_ne {b : Bt} (h : b.length ≤ 64) : fillS b ≠ noSec := by
  intro e
  have : (padB b).length = 0 := by have := congrArg (fun s => s.b.length) e; exact this
  rw [padB_length h] at this
  omega
/-- A write. -/
def wrC (cs : List Cl) (at_ : Nat) (x : Sec) : List Cl := if h : at_ < cs.length then cs.set at_ ⟨cs[at_].s, some x⟩ else cs ++ [⟨noSec, some x⟩]
def syncC (cs : List Cl) : List Cl := cs.map fun c => ⟨c.now, none⟩
/-- A crash: fates. -/
def fateN (n : Int) : Int := n % 3
def fateS (c : Sec) (x : Sec) (n : Int) : Sec := if fateN n = 1 then x else if fateN n = 2 then badSec else c
def crC : List Cl → List Int → List Sec × List Int
  | [], f => ([], f)
  | c :: cs, f => match c.n with
    | none => (c.s :: (crC cs f).1, (crC cs f).2)
    | some x => match f with
      | [] => (c.s :: (crC cs []).1, (crC cs []).2)
      | a :: f => (fateS c.s x a :: (crC cs f).1, (crC cs f).2)
/-- The end without those that are nothing. -/
def cutS : List Sec → List Sec
  | [] => []
  | x :: l => if x = noSec ∧ cutS l = [] then [] else x :: cutS l
def trimS (l : List Sec) : List Sec := (cutS l).map fun x => if x = noSec then fillS [] else x
def crF (f : Fl) (fates : List Int) : Fl × List Int := (⟨f.name, (trimS (crC f.cs fates).1).map fun s => ⟨s, none⟩⟩, (crC f.cs fates).2)
def crFs : List Fl → List Int → List Fl
  | [], _ => []
  | f :: fs, fates => (crF f fates).1 :: crFs fs (crF f fates).2
def crD (d : Dk) (fates : List Int) : Dk := ⟨d.most, (crFs d.fs fates).filter fun f => decide (f.cs ≠ []), -1, false⟩
end Go.Proofs.YthmjejmignangaaGreatDoor
namespace Go.Proofs.YthmjejmignangaaGreatDoor
open Go.RowKit Go.Maps
theorem int_key15 : Keyed Tryz.prog 3 := int_keyed Tryz.underlying3
theorem wf_small {x : Int} (h0 : -4611686018427387904 ≤ x) (h1 : x ≤ 4611686018427387904) : (Lit.int .i64 x).wf = true := by
  have e1 : IntKind.i64.min = -9223372036854775808 := by decide
  have e2 : IntKind.i64.max = 9223372036854775807 := by decide
  simp only [Lit.wf, e1, e2, Bool.and_eq_true, decide_eq_true_eq]
  omega
def Sec.d (x : Sec) : DataW Unit := .agg [.lit (.string x.b), .lit (.bool x.bad)]
/-- How a sector is read in a map. -/
def secElem : Value → Option (DataW Unit × List MemPlace)
  | .agg cs => match cs.toList with
    | [.string s, .bool b] => some (.agg [.lit (.string s.data.toList), .lit (.bool b)], [])
    | _ => none
  | _ => none
theorem secElem_mk (x : Sec) : secElem x.v = some (x.d, []) := rfl
theorem secElem_inv {v : Value} {z : DataW Unit × List MemPlace} (h : secElem v = some z) : ∃ x : Sec, v = x.v ∧ z = (x.d, []) := by
  unfold secElem at h
  split at h
  · rename_i cs
    split at h
    · rename_i s b e
      injection h with h
      obtain ⟨⟨l⟩⟩ := s
      refine ⟨⟨l, b⟩, ?_, h.symm⟩
      obtain ⟨cs⟩ := cs
      have e : cs = [.string ⟨⟨l⟩⟩, .bool b] := e
      subst e
      rfl
    · cases h
  · cases h
theorem Sec.d_inj {x y : Sec} (h : x.d = y.d) : x = y := by
  obtain ⟨a, b⟩ := x
  obtain ⟨c, d⟩ := y
  simp only [Sec.d] at h
  injection h with h
  injection h with h1 h2
  injection h2 with h2 _
  injection h1 with h1
  injection h2 with h2
  injection h1 with h1
  injection h2 with h2
  subst h1; subst h2; rfl
theorem nodup_le : ∀ {a b : List Nat}, a.Nodup → (∀ x ∈ a, x ∈ b) → a.length ≤ b.length
  | [], _, _, _ => Nat.zero_le _
  | x :: a, b, ha, h => by
    rw [List.nodup_cons] at ha
    have hx := h x (by simp)
    have := nodup_le (a := a) (b := b.erase x) ha.2 fun y hy => (List.mem_erase_of_ne (fun e => ha.1 (by rw [← e]; exact hy))).2 (h y (List.mem_cons_of_mem _ hy))
    have e := List.length_erase_of_mem hx
    have : 0 < b.length := List.length_pos_of_mem hx
    simp only [List.length_cons]
    omega
/-- What a map holds, told by a function. -/
structure Tells (D : DataW Unit) (n : Nat) (m : Nat → Option Sec) : Prop where
  k : ∀ x : Int, has D (.int .i64 x) = true → ∃ k : Nat, x = k ∧ m k ≠ none
  v : ∀ k v, m k = some v → k < n ∧ has D (.int .i64 k) = true ∧ ∀ z, D.atKey (.int .i64 k) z = v.d
theorem Tells.no {D : DataW Unit} {n : Nat} {m : Nat → Option Sec} (h : Tells D n m) {k : Nat} (e : m k = none) : has D (.int .i64 k) = false := by
  cases e2 : has D (.int .i64 k) with
  | false => rfl
  | true => obtain ⟨k', e3, e4⟩ := h.k _ e2; obtain rfl : k = k' := by omega
            exact absurd e e4
/-- The map's value mv holds what m says, its keys below n. -/
def MapS (w : World) (mv : Option Nat) (n : Nat) (m : Nat → Option Sec) : Prop :=
  (mv = none ∧ ∀ k, m k = none) ∨ ∃ b D N, mv = some b ∧ w.ownsMap Tryz.prog 3 secElem b N D ∧ N ≤ 100000 ∧ Tells D n m
theorem MapS.none (w : World) (n : Nat) : MapS w none n (fun _ => none) := .inl ⟨rfl, fun _ => rfl⟩
theorem MapS.congr {w : World} {mv : Option Nat} {n : Nat} {m m' : Nat → Option Sec} (h : MapS w mv n m) (e : ∀ k, m' k = m k) : MapS w mv n m' := by
  obtain rfl : m' = m := funext e
  exact h
theorem MapS.keep {w w' : World} {mv : Option Nat} {n : Nat} {m : Nat → Option Sec} (h : MapS w mv n m) (e : ∀ b, mv = some b → w'.heap[b]? = w.heap[b]?) : MapS w' mv n m := by
  rcases h with h | ⟨b, D, N, rfl, ⟨es, cl, h1, h2⟩, h3⟩
  · exact .inl h
  · exact .inr ⟨b, D, N, rfl, ⟨es, cl, (e b rfl).trans h1, h2⟩, h3⟩
theorem MapS.lt {w : World} {mv : Option Nat} {n : Nat} {m : Nat → Option Sec} (h : MapS w mv n m) : ∀ b, mv = some b → b < w.heap.size := by
  intro b e
  rcases h with ⟨rfl, _⟩ | ⟨b', D, N, rfl, h1, _⟩
  · cases e
  · injection e with e; subst e; exact h1.lt
theorem MapS.bound {w : World} {mv : Option Nat} {n : Nat} {m : Nat → Option Sec} (h : MapS w mv n m) : ∀ k, m k ≠ Option.none → k < n := by
  intro k e
  rcases h with ⟨_, h⟩ | ⟨b', D, N, _, _, _, h⟩
  · exact absurd (h k) e
  · obtain ⟨v, hv⟩ := Option.ne_none_iff_exists'.1 e
    exact (h.v k v hv).1
theorem MapS.made (w : World) (n : Nat) : MapS (w.alloc (.map #[] 0)) (some w.heap.size) n (fun _ => Option.none) := by
  refine .inr ⟨_, .map [], 0, rfl, World.ownsMap_made w _ _ _, by omega, fun x h => ?_, fun k v h => by cases h⟩
  simp [has] at h
theorem keys_le {V : Type} (l : List (Lit × V)) (n : Nat) (h : ∀ p ∈ l, ∃ k : Nat, k < n ∧ p.1 = .int .i64 (k : Int)) (hp : l.Pairwise fun p q => p.1 ≠ q.1) : l.length ≤ n := by
  let kf : Lit × V → Nat := fun p => match p.1 with
    | .int _ z => z.toNat
    | _ => 0
  have e : ∀ p ∈ l, p.1 = .int .i64 ((kf p : Nat) : Int) ∧ kf p < n := fun p hp => by
    obtain ⟨k, h1, h2⟩ := h p hp
    have : kf p = k := by simp [kf, h2]
    rw [this]
    exact ⟨h2, h1⟩
  have nd : (l.map kf).Nodup := by
    rw [List.Nodup, List.pairwise_map]
    refine List.Pairwise.imp_of_mem (fun {a b} ha hb hne he => hne ?_) hp
    rw [(e a ha).1, (e b hb).1, he]
  have := nodup_le nd (b := List.range n) fun x hx => by
    obtain ⟨p, hp, rfl⟩ := List.mem_map.1 hx
    exact List.mem_range.2 (e p hp).2
  simpa using this
theorem tight {w : World} {b N n : Nat} {D : DataW Unit} {m : Nat → Option Sec} (h : w.ownsMap Tryz.prog 3 secElem b N D) (T : Tells D n m) : w.ownsMap Tryz.prog 3 secElem b n D := by
  obtain ⟨es, clock, hb, F, hs, hD⟩ := h
  refine ⟨es, clock, hb, F, ?_, hD⟩
  have hmem : ∀ p ∈ es.toList.map (Go.WideElems.rg Tryz.prog 3 secElem), ∃ k : Nat, k < n ∧ p.1 = .int .i64 (k : Int) := fun p hp => by
    obtain ⟨x, hx, rfl⟩ := List.mem_map.1 hp
    obtain ⟨y, hy⟩ := F.reads x hx
    have hk := Go.WideElems.rd_key hy
    have hr := Go.WideElems.rg_of hy
    obtain ⟨z, _, e2, _⟩ := Maps.keyOf_int_inv Tryz.underlying3 hk
    have hh : has D (.int .i64 z) = true := by
      rw [hD]
      refine List.any_eq_true.2 ⟨_, mem_sorted.2 hp, ?_⟩
      rw [hr, e2]
      exact WideAt.sameKey_self (int_key15.key (e2 ▸ hk))
    obtain ⟨k, e3, e4⟩ := T.k z hh
    obtain ⟨v, hv⟩ := Option.ne_none_iff_exists'.1 e4
    exact ⟨k, (T.v k v hv).1, by rw [hr, e2, e3]⟩
  have hap := Maps.fit_apart int_key15 F
  have hlen : (es.toList.map (Go.WideElems.rg Tryz.prog 3 secElem)).length = es.size := by simp
  generalize es.toList.map (Go.WideElems.rg Tryz.prog 3 secElem) = l at hmem hap hlen
  have := keys_le l n hmem hap
  omega
theorem MapS.look {w : World} {mv : Option Nat} {n : Nat} {m : Nat → Option Sec} (h : MapS w mv n m) (k : Nat) (hk : k ≤ 100000) : (Instr.lookup 112 (.map mv) (.int .i64 k) true).run Tryz.prog w = .ok (.tuple #[((m k).getD noSec).v, .bool (m k).isSome]) w := by
  have hz : (zeroValue 76).run Tryz.prog w = .ok noSec.v w := by kernel_rfl
  have hkey := keyOf_int_mk (P := Tryz.prog) Tryz.underlying3 (wf_small (x := k) (by omega) (by omega))
  rcases h with ⟨rfl, h⟩ | ⟨b, D, N, rfl, h1, _, T⟩
  · rw [h k]
    exact Maps.look_nil true int_key15 Tryz.underlying112 hz hkey
  · obtain ⟨v, ps, hr, hv⟩ := h1.look_ok (t := 112) int_key15 Tryz.underlying112 hz (zd := noSec.d) (zp := []) (secElem_mk noSec) hkey
    rw [hr]
    obtain ⟨x, rfl, hc⟩ := secElem_inv hv
    have hc := congrArg Prod.fst hc
    simp only at hc
    cases e : m k with
    | none =>
      have hn := T.no e
      rw [atKey_of_not_has hn] at hc
      rw [Sec.d_inj hc.symm, hn]
      rfl
    | some v =>
      obtain ⟨_, e1, e2⟩ := T.v k v e
      rw [e2] at hc
      rw [Sec.d_inj hc.symm, e1]
      rfl
def mput (m : Nat → Option Sec) (k : Nat) (x : Sec) : Nat → Option Sec := fun j => if j = k then some x else m j
theorem MapS.put {w : World} {b n : Nat} {m : Nat → Option Sec} (h : MapS w (some b) n m) (k : Nat) (x : Sec) (n' : Nat) (hn : n ≤ n') (hk : k < n') (hn' : n' ≤ 100000) :
    ∃ w', (Instr.mapUpdate 112 (.map (some b)) (.int .i64 k) x.v).run Tryz.prog w = .ok () w' ∧ MapS w' (some b) n' (mput m k x) ∧ w.grownBy w' (some b) ∧ w'.heap.size = w.heap.size := by
  rcases h with ⟨h, _⟩ | ⟨b', D, N, e, h1, _, T⟩
  · cases h
  injection e with e
  subst e
  have hkey := keyOf_int_mk (P := Tryz.prog) Tryz.underlying3 (wf_small (x := k) (by omega) (by omega))
  have hkl : WideAt.IsKeyLit (.int .i64 (k : Int)) := by trivial
  obtain ⟨w', hr, h4, h5⟩ := (tight h1 T).store (t := 112) int_key15 Tryz.underlying112 (by unfold maxLen; omega) hkey (secElem_mk x)
  have T' : Tells (D.put (.int .i64 k) x.d) n' (mput m k x) := by
    refine ⟨fun y hy => ?_, fun j v hj => ?_⟩
    · by_cases e : y = k
      · exact ⟨k, e, by simp [mput]⟩
      · rw [has_put_other (by intro e2; cases e2; exact e rfl)] at hy
        obtain ⟨k', e1, e2⟩ := T.k y hy
        exact ⟨k', e1, by unfold mput; rw [if_neg (by omega)]; exact e2⟩
    · by_cases e : j = k
      · subst e
        unfold mput at hj
        rw [if_pos rfl] at hj
        injection hj with hj
        subst hj
        exact ⟨hk, has_put_same h1.isMap hkl _, fun z => atKey_put_same h1.isMap hkl _ z⟩
      · unfold mput at hj
        rw [if_neg e] at hj
        obtain ⟨e0, e1, e2⟩ := T.v j v hj
        have ne : Lit.int .i64 (j : Int) ≠ .int .i64 (k : Int) := by intro e2; injection e2 with _ e3; omega
        exact ⟨by omega, by rw [has_put_other ne]; exact e1, fun z => by rw [atKey_put_other ne]; exact e2 z⟩
  refine ⟨w', hr, .inr ⟨b, _, _, rfl, tight h4 T', hn', T'⟩, h5.grown, ?_⟩
  obtain ⟨es, cl, es', cl', _, rfl⟩ := h5
  simp [ChangeMaps.setBlock]
end Go.Proofs.YthmjejmignangaaGreatDoor
