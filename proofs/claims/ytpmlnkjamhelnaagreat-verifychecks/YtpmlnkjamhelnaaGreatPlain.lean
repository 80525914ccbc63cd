/- Plain facts on bytes, numbers and memory that the walks over package wire lean on. What wire's smallest functions do: number reads bytes as a number, appendNumber writes one behind a slice, fresh copies a slice. What wire's sums come to: sumOf is CRC-32 by a table of sixteen numbers, lowestFirst turns the four bytes of a sum round. -/
import Derived.WalkKit
import Derived.WalkSpells
import Derived.Deep.AppendLies
import Derived.Deep.AppendSrc
import Derived.Test.YtpmlnkjamhelnaaGreatProg
import Derived.WalkLawsBesides
import Derived.Laws.CopyOwn
namespace Go.Proofs.YtpmlnkjamhelnaaGreat
open Go.RowKit

theorem hid {p : Prop} (h : p) : Hid p := h
/-- A byte's cell. -/
abbrev bv (b : UInt8) : Value := .int .u8 (b.toNat : Int)

/-- At ao there lie the bytes bs (of none nothing is asked). -/
def Bs (w : World) (ao : Option Addr) (bs : List UInt8) : Prop :=
  bs = [] ∨ ∃ b off, ao = some ⟨b, off, none⟩ ∧ ∀ j (h : j < bs.length), w.cell? ⟨b, off + j, none⟩ = some (.int .u8 (bs[j].toNat : Int))

/-- A number's lowest bytes, the highest first. -/
def be (n size : Nat) : List UInt8 := (List.range size).map fun j => UInt8.ofNat (n / 256 ^ (size - 1 - j))

theorem be_length (n size : Nat) : (be n size).length = size := by simp [be]
theorem be_take (n size k : Nat) (h : k < size) : (be n size).take (k + 1) = (be n size).take k ++ [UInt8.ofNat (n / 256 ^ (size - 1 - k))] := by
  rw [List.take_succ_eq_append_getElem (by rw [be_length]; exact h)]
  simp [be]

theorem be_byte (n e : Nat) : ((n : Int) / 2 ^ (8 * e)) % 256 = (((UInt8.ofNat (n / 256 ^ e)).toNat : Nat) : Int) := by
  have h : (2 : Nat) ^ (8 * e) = 256 ^ e := by rw [Nat.pow_mul]
  have h' : ((2 : Int) ^ (8 * e)) = ((256 ^ e : Nat) : Int) := by rw [← h]; norm_cast
  rw [h', UInt8.toNat_ofNat', ← Int.natCast_ediv]
  generalize n / 256 ^ e = m
  omega
/-- One cell in a new block of its own. -/
theorem new_one (w : World) (x y : Value) (t : TypeId) (h : x = y) : ∀ j u, [y][j]? = some u → (w.alloc (.cells #[x] t)).cell? ((⟨w.heap.size, 0, none⟩ : Addr).add j) = some u := by
  subst h
  exact World.news_of_block (heap_alloc_new w _)

/-- Bytes as a number of 64 bits, the highest first. -/
def numStep (n : Nat) (x : UInt8) : Nat := (n * 256 + x.toNat) % 18446744073709551616
def num (bs : List UInt8) : Nat := bs.foldl numStep 0
theorem num_lt (bs : List UInt8) : num bs < 18446744073709551616 := by
  unfold num
  rcases List.eq_nil_or_concat bs with rfl | ⟨l, x, rfl⟩
  · decide
  · simp only [List.concat_eq_append, List.foldl_append, List.foldl_cons, List.foldl_nil]
    exact Nat.mod_lt _ (by decide)
theorem num_snoc (bs : List UInt8) (k : Nat) (h : k < bs.length) : num (bs.take (k + 1)) = numStep (num (bs.take k)) bs[k] := by
  rw [List.take_succ_eq_append_getElem h]
  simp only [num, List.foldl_append, List.foldl_cons, List.foldl_nil]
theorem numStep_bits (n : Nat) (x : UInt8) :
    bits BinOp.or IntKind.u64 (IntKind.u64.wrap ((n : Int) * 256)) (IntKind.u64.wrap (x.toNat : Int)) = ((numStep n x : Nat) : Int) := by
  have hx : x.toNat < 256 := x.toNat_lt
  rw [IntKind.wrap_u64, IntKind.wrap_u64]
  have e1 : ((n : Int) * 256) % 18446744073709551616 = ((n * 256 % 18446744073709551616 : Nat) : Int) := by omega
  have e2 : (x.toNat : Int) % 18446744073709551616 = (x.toNat : Int) := by omega
  rw [e1, e2, u64_or_nat _ _ (Nat.mod_lt _ (by decide)) (by omega), nat_join8 _ _ (by omega) hx]
  unfold numStep
  omega

theorem grown_trans {a b c : World} {r s : Option Nat} (h : a.grownBy b r) (k : b.grownBy c s) (hs : s = r ∨ ∃ g, s = some g ∧ a.heap.size ≤ g) : a.grownBy c r := by
  refine ⟨k.os.trans h.os, k.tape.trans h.tape, k.output.trans h.output, Nat.le_trans h.size k.size, fun i hi hne => ?_⟩
  rw [k.block i (Nat.lt_of_lt_of_le hi h.size) ?_, h.block i hi hne]
  rcases hs with rfl | ⟨g, rfl, hg⟩
  · exact hne
  · intro e; cases e; omega
theorem grown_refl (a : World) (r : Option Nat) : a.grownBy a r := ⟨rfl, rfl, rfl, Nat.le_refl _, fun _ _ _ => rfl⟩
theorem grown_drew (a : World) (r : Option Nat) : a.grownBy a.drew r := ⟨rfl, rfl, rfl, Nat.le_refl _, fun _ _ _ => rfl⟩

/-- The slice v (of elements of type e, one cell each) is the call's own: its cells are xs, its row lies in a block from base on. -/
def Own (w : World) (base : Nat) (e : TypeId) (v : Value) (xs : List Value) : Prop := w.ownsRow base e 1 v xs.length xs
/-- From w and v to w' and v': of what was there nothing has turned but v's own row; v' lies in that row, or in a new block. -/
def Step (w : World) (v : Value) (w' : World) (v' : Value) : Prop := w.grownBy w' v.ownBlock ∧ (v'.ownBlock = v.ownBlock ∨ ∃ g, v'.ownBlock = some g ∧ w.heap.size ≤ g)

theorem Step.refl (w : World) (v : Value) : Step w v w v := ⟨grown_refl _ _, .inl rfl⟩
theorem Step.trans {a b c : World} {u v x : Value} (h : Step a u b v) (k : Step b v c x) : Step a u c x := by
  refine ⟨grown_trans h.1 k.1 h.2, ?_⟩
  rcases k.2 with e | ⟨g, e, hg⟩
  · rw [e]; exact h.2
  · exact .inr ⟨g, e, Nat.le_trans h.1.size hg⟩
theorem Step.alloc {a b : World} {u v : Value} (h : Step a u b v) (o : Obj) : Step a u (b.alloc o) v :=
  ⟨grown_trans h.1 (World.grownBy_alloc b o v.ownBlock) h.2, h.2⟩
theorem Step.drew {a b : World} {u v : Value} (h : Step a u b v) : Step a u b.drew v := ⟨grown_trans h.1 (grown_drew b v.ownBlock) h.2, h.2⟩
theorem Step.size {a b : World} {u v : Value} (h : Step a u b v) : a.heap.size ≤ b.heap.size := h.1.size
theorem Step.below {a b : World} {u v : Value} (h : Step a u b v) {B : Nat} (hB : B ≤ a.heap.size) (hu : ∀ k, u.ownBlock = some k → B ≤ k) : Below B a b :=
  (Below.refl B a).grown h.1 hB hu

theorem Own.alloc {w : World} {base : Nat} {e : TypeId} {v : Value} {xs : List Value} (h : Own w base e v xs) (o : Obj) : Own (w.alloc o) base e v xs := World.ownsRow.alloc h o
theorem Own.drew {w : World} {base : Nat} {e : TypeId} {v : Value} {xs : List Value} (h : Own w base e v xs) : Own w.drew base e v xs := World.ownsRow.drew h
theorem Own.nil (w : World) (base : Nat) (e : TypeId) : Own w base e (.slice none 0 0) [] := World.ownsRow_nil w base e 1
theorem Own.kept {w w' : World} {base : Nat} {e : TypeId} {v : Value} {xs : List Value} {row : Option Nat} (h : Own w base e v xs) (hg : w.grownBy w' row) (hne : v.ownBlock = none ∨ v.ownBlock ≠ row) : Own w' base e v xs := World.ownsRow.kept h hg hne
theorem Own.lt {w : World} {base : Nat} {e : TypeId} {v : Value} {xs : List Value} (h : Own w base e v xs) : ∀ k, v.ownBlock = some k → base ≤ k ∧ k < w.heap.size := World.ownsRow.lt h
theorem Own.mono {w : World} {base base' : Nat} {e : TypeId} {v : Value} {xs : List Value} (h : Own w base e v xs) (hb : ∀ k, v.ownBlock = some k → base' ≤ k) : Own w base' e v xs := by
  refine ⟨h.1, ?_⟩
  rcases h.2 with h2 | ⟨g, cap, cur, rfl, _, r⟩
  · exact .inl h2
  · exact .inr ⟨g, cap, cur, rfl, hb g rfl, r⟩
/-- What an owned slice looks like. -/
theorem Own.form {w : World} {base : Nat} {e : TypeId} {v : Value} {xs : List Value} (h : Own w base e v xs) : ∃ ao cap, v = .slice ao xs.length cap ∧ xs.length ≤ cap ∧ cap ≤ maxLen ∧ v.ownBlock = ao.map (·.block) ∧
    (ao = none → cap = 0) ∧ (∀ b, ao = some b → ∃ g, b = ⟨g, 0, none⟩ ∧ ∀ j u, xs[j]? = some u → w.cell? ⟨g, j, none⟩ = some u) := by
  rcases h.2 with ⟨rfl, h0⟩ | ⟨g, cap, cur, rfl, hb, hg, hle, hmx, hsz, htk⟩
  · have : xs = [] := List.eq_nil_of_length_eq_zero h0
    subst this
    exact ⟨none, 0, rfl, Nat.le_refl _, Nat.zero_le _, rfl, (fun _ => rfl), (fun _ e => by cases e)⟩
  · refine ⟨some ⟨g, 0, none⟩, cap, rfl, hle, hmx, rfl, (fun e => by cases e), (fun b e => ⟨g, (by cases e; rfl), fun j u hu => ?_⟩)⟩
    have := World.ownsRow.cells h (g := g) rfl j u hu
    have hadd : (⟨g, 0, none⟩ : Addr).add j = ⟨g, j, none⟩ := by unfold Addr.add; split <;> simp_all
    rw [hadd] at this
    exact this
theorem Own.bs {w : World} {base : Nat} {e : TypeId} {v : Value} {bs : List UInt8} (h : Own w base e v (bs.map bv)) : ∃ ao cap, v = .slice ao bs.length cap ∧ bs.length ≤ cap ∧ cap ≤ maxLen ∧ Bs w ao bs ∧ v.ownBlock = ao.map (·.block) ∧ (ao = none → cap = 0) := by
  obtain ⟨ao, cap, hv, h1, h2, h3, h4, h5⟩ := h.form
  rw [List.length_map] at hv h1
  refine ⟨ao, cap, hv, h1, h2, ?_, h3, h4⟩
  cases ao with
  | none => left; have := h4 rfl; exact List.eq_nil_of_length_eq_zero (by omega)
  | some b =>
    obtain ⟨g, rfl, hc⟩ := h5 b rfl
    refine .inr ⟨g, 0, rfl, fun j hj => ?_⟩
    rw [Nat.zero_add]
    exact hc j _ (by simp [List.getElem?_eq_getElem hj])

/-- The elements' type: one cell, so many bytes. -/
structure Elem (P : Program) (t e : TypeId) (bytes : Nat) : Prop where
  ht : P.underlying t = some (.slice e)
  hi : ∃ i z, P.info? e = some i ∧ i.zero = some z ∧ i.size = 1 ∧ i.bytes = bytes ∧ z.cells.size = 1

section
variable {P : Program} (w : World)
/-- append onto an owned slice, from whatever source. -/
theorem run_app {t tx ty e : TypeId} {bytes : Nat} (E : Elem P t e bytes) (base : Nat) (v : Value) (xs : List Value) (hown : Own w base e v xs) (x : Value) (news : List Value) (hs : Src P 1 tx x news.length news w)
    (h63 : xs.length + news.length ≤ maxLen) (hbytes : (xs.length + news.length) * bytes ≤ 140737488355328) (hbase : base ≤ w.heap.size) :
    ∃ v' w', (Builtin.append_ #[t, tx] ty #[v, x]).run P w = .ok v' w' ∧ Own w' base e v' (xs ++ news) ∧ Step w v w' v' := by
  obtain ⟨ht, i, z, hi, hz, hsize, rfl, hzs⟩ := E
  have hs' : Src P i.size tx x news.length news w := by rw [hsize]; exact hs
  have hsmall : xs.length + news.length ≤ 9223372036854775807 := by simp only [maxLen] at h63; omega
  have grown : ∀ (old : Nat), old < xs.length + news.length → ∀ u : Value,
      Own (w.drew.alloc (.cells ((xs ++ news).toArray ++ Builtin.zeroCells z.cells (grownCap w (xs.length + news.length) old e - (xs.length + news.length))) e)) base e
        (.slice (some ⟨w.heap.size, 0, none⟩) (xs.length + news.length) (grownCap w (xs.length + news.length) old e)) (xs ++ news) ∧
      Step w u (w.drew.alloc (.cells ((xs ++ news).toArray ++ Builtin.zeroCells z.cells (grownCap w (xs.length + news.length) old e - (xs.length + news.length))) e)) (.slice (some ⟨w.heap.size, 0, none⟩) (xs.length + news.length) (grownCap w (xs.length + news.length) old e)) := by
    intro old ho u
    have hge := grownCap_ge w (xs.length + news.length) old e
    have hcm : grownCap w (xs.length + news.length) old e ≤ maxLen := grownCap_le_maxLen w (xs.length + news.length) old e h63
    refine ⟨⟨by simp, .inr ⟨w.heap.size, _, _, by rw [List.length_append], hbase, heap_alloc_new w.drew _, by rw [List.length_append]; exact hge, hcm, ?_, ?_⟩⟩, ⟨⟨rfl, rfl, rfl, by simp, fun k hk _ => Below.heap_alloc w.drew _ k hk⟩, .inr ⟨w.heap.size, rfl, Nat.le_refl _⟩⟩⟩
    · simp only [Array.size_append, List.size_toArray, List.length_append, size_zeroCells, hzs]
      omega
    · simp only [Array.toList_append, Nat.mul_one]
      exact List.take_left
  rcases hown.2 with ⟨rfl, h0⟩ | ⟨g, cap, cur, rfl, hbg, hg, hnc, hcm, hcs, htake⟩
  · have hx : xs = [] := List.eq_nil_of_length_eq_zero h0
    subst hx
    by_cases hm : news.length = 0
    · obtain rfl : news = [] := List.eq_nil_of_length_eq_zero hm
      refine ⟨.slice none 0 0, w, ?_, Own.nil w base e, Step.refl _ _⟩
      have hc : (Builtin.firstCells i.size 0 x).run P w = .ok #[] w := hs'.cells
      rcases hs'.kind with ⟨e', hk⟩ | hk <;> simp [Builtin.append_, run_underlying ht, run_underlying hk, sizeOf, typeInfo, hi, hs'.len, hc]
    · have hr := run_append_grow_src (P := P) w t tx ty e i z ht hi hz none 0 0 [] (by simp [Builtin.firstCells]) x news.length news hs' (by omega) (by have := hsmall; simp only [List.length_nil, Nat.zero_add] at this ⊢; omega) (growslice_fits (by omega) (by simpa using hbytes))
      have hgr := grown 0 (by simp; omega) (.slice none 0 0)
      simp only [List.length_nil, Nat.zero_add, List.nil_append] at hgr hr ⊢
      exact ⟨_, _, hr, hgr.1, hgr.2⟩
  · by_cases hroom : xs.length + news.length ≤ cap
    · have hst := run_storeCells_at P g xs.length e news 0 cur w hg (by rw [hcs]; omega) hs.one
      simp only [Nat.add_zero] at hst
      refine ⟨.slice (some ⟨g, 0, none⟩) (xs.length + news.length) cap, w.setRow g (cur.toList.take xs.length ++ news ++ cur.toList.drop (xs.length + news.length)).toArray, ?_, ⟨by simp, .inr ⟨g, cap, _, by rw [List.length_append], hbg, setRow_heap w g cur _ e _ hg, by rw [List.length_append]; exact hroom, hcm, ?_, ?_⟩⟩,
        ⟨⟨rfl, rfl, rfl, by simp, fun k _ hk => setRow_other w g k _ (fun e => hk (by simp [Value.ownBlock, e]))⟩, .inl rfl⟩⟩
      · rcases hs'.kind with ⟨e', hk⟩ | hk <;> simp [Builtin.append_, run_underlying ht, run_underlying hk, sizeOf, typeInfo, hi, hsize, hs'.len, hroom, (hsize ▸ hs'.cells), Addr.add_lit, hst]
      · simp only [List.size_toArray, List.length_append, List.length_take, List.length_drop, Array.length_toList]
        omega
      · simp only [Nat.mul_one] at htake ⊢
        rw [htake]
        exact List.take_left
    · have holds : ∀ j u, xs[j]? = some u → w.drew.cell? ((⟨g, 0, none⟩ : Addr).add j) = some u := by simpa using World.ownsRow.cells hown (g := g) rfl
      have hr := run_append_grow_src (P := P) w t tx ty e i z ht hi hz (some ⟨g, 0, none⟩) xs.length cap xs (run_firstCells_some w.drew i.size xs.length ⟨g, 0, none⟩ xs.length cap xs (by rw [hsize, Nat.mul_one]) holds) x news.length news hs' (by omega) (by omega) (growslice_fits (by omega) hbytes)
      have hgr := grown cap (by omega) (.slice (some ⟨g, 0, none⟩) xs.length cap)
      exact ⟨_, _, hr, hgr.1, hgr.2⟩

theorem wp_app {o : Oper} {a : Act} {K : Act → World → Prop} {Q : Exit → Act → World → Prop} (s x : Operand) (t tx : TypeId) (ho : o.op = .call { callee := .builtin .append, args := #[s, x], argTypes := #[t, tx] })
    {e : TypeId} {bytes : Nat} (E : Elem P t e bytes) (base : Nat) (v : Value) (xs : List Value) (hv : a.eval s = v) (hown : Own w base e v xs) (y : Value) (hy : a.eval x = y) (news : List Value) (hs : Src P 1 tx y news.length news w)
    (h63 : xs.length + news.length ≤ maxLen) (hbytes : (xs.length + news.length) * bytes ≤ 140737488355328) (hbase : base ≤ w.heap.size)
    (h : ∀ v' w', Own w' base e v' (xs ++ news) → Step w v w' v' → K (a.put o.dst v') w') : o.wp P a w K Q := by
  obtain ⟨v', w', hr, h2, h3⟩ := run_app (P := P) w (ty := o.type) E base v xs hown y news hs h63 hbytes hbase
  unfold Oper.wp execOp
  simp only [ho, resolve, invoke, builtin, Sem.run_bind, Sem.run_pure, Result.andThen_ok, List.map_toArray, List.map_cons, List.map_nil, hv, hy, hr]
  exact h v' w' h2 h3
theorem wpList_app {ops : Array Oper} {rest : List Oper} {o : Oper} {a : Act} {Q : Exit → Act → World → Prop} (hgd : o.guard = none) (s x : Operand) (t tx : TypeId) (ho : o.op = .call { callee := .builtin .append, args := #[s, x], argTypes := #[t, tx] })
    {e : TypeId} {bytes : Nat} (E : Elem P t e bytes) (base : Nat) (v : Value) (xs : List Value) (hv : a.eval s = v) (hown : Own w base e v xs) (y : Value) (hy : a.eval x = y) (news : List Value) (hs : Src P 1 tx y news.length news w)
    (h63 : xs.length + news.length ≤ maxLen) (hbytes : (xs.length + news.length) * bytes ≤ 140737488355328) (hbase : base ≤ w.heap.size)
    (h : ∀ v' w', Own w' base e v' (xs ++ news) → Step w v w' v' → wpList P ops Q rest (a.put o.dst v') w') : wpList P ops Q (o :: rest) a w :=
  wpList_plain hgd fun _ hK => wp_app w s x t tx ho E base v xs hv hown y hy news hs h63 hbytes hbase fun v' w' h2 h3 => hK _ _ (h v' w' h2 h3)
theorem step_app {ops : Array Oper} {o : Oper} {a : Act} {K : Act → World → Prop} {Q : Exit → Act → World → Prop} {X : Prop} (hgd : o.guard = none) (s x : Operand) (t tx : TypeId) (ho : o.op = .call { callee := .builtin .append, args := #[s, x], argTypes := #[t, tx] })
    {e : TypeId} {bytes : Nat} (E : Elem P t e bytes) (base : Nat) (v : Value) (xs : List Value) (hv : a.eval s = v) (hown : Own w base e v xs) (y : Value) (hy : a.eval x = y) (news : List Value) (hs : Src P 1 tx y news.length news w)
    (h63 : xs.length + news.length ≤ maxLen) (hbytes : (xs.length + news.length) * bytes ≤ 140737488355328) (hbase : base ≤ w.heap.size)
    (h : ∀ v' w', Own w' base e v' (xs ++ news) → Step w v w' v' → K (a.put o.dst v') w') :
    if Region.wanted o (yielded ops a.tmps) = true then Oper.wp P o a w K Q else X := by
  have hw : Region.wanted o (yielded ops a.tmps) = true := by simp [Region.wanted, hgd]
  rw [if_pos hw]
  exact wp_app w s x t tx ho E base v xs hv hown y hy news hs h63 hbytes hbase h

/-- Sources: one new element; bytes that lie somewhere; a string. -/
theorem src_one {tx e' : TypeId} (hk : P.underlying tx = some (.slice e')) (x y : Value) (t : TypeId) (h : x = y) (h1 : y.oneCell' = true) (c : Nat) : Src P 1 tx (.slice (some ⟨w.heap.size, 0, none⟩) 1 c) [y].length [y] (w.alloc (.cells #[x] t)) := by
  subst h
  exact Src.ofSlice _ hk _ 1 c [x] rfl (World.news_of_block (heap_alloc_new w _)) (by intro u hu; simp at hu; subst hu; exact h1)
theorem src_bs {tx e' : TypeId} (hk : P.underlying tx = some (.slice e')) {ao : Option Addr} {bs : List UInt8} (hb : Bs w ao bs) (c : Nat) : Src P 1 tx (.slice ao bs.length c) (bs.map bv).length (bs.map bv) w := by
  rw [List.length_map]
  rcases hb with rfl | ⟨b, off, rfl, hc⟩
  · cases ao with
    | none => exact Src.ofNil w hk c
    | some a => exact Src.ofSlice w hk a 0 c [] rfl (fun j u h => by simp at h) (fun u h => by cases h)
  · refine Src.ofSlice w hk _ _ c _ (by simp) (fun j u hu => ?_) (fun u hu => ?_)
    · have hadd : (⟨b, off, none⟩ : Addr).add j = ⟨b, off + j, none⟩ := by unfold Addr.add; split <;> simp_all
      rw [hadd]
      rw [List.getElem?_map] at hu
      obtain ⟨x, hx, rfl⟩ := Option.map_eq_some_iff.1 hu
      obtain ⟨hj, rfl⟩ := List.getElem?_eq_some_iff.1 hx
      exact hc j hj
    · obtain ⟨_, _, rfl⟩ := List.mem_map.1 hu; rfl
theorem src_str {tx : TypeId} (hk : P.underlying tx = some .string) (bs : List UInt8) : Src P 1 tx (.string ⟨bs.toArray⟩) (bs.map bv).length (bs.map bv) w := by
  have := Src.ofString (P := P) w hk ⟨bs.toArray⟩
  have e : (⟨bs.toArray⟩ : ByteArray).size = bs.length := by simp [ByteArray.size]
  rw [e] at this
  simpa [byteCells] using this
end

end Go.Proofs.YtpmlnkjamhelnaaGreat
namespace Go.Proofs.YtpmlnkjamhelnaaGreat
open Go.RowKit

theorem ret_int {k : IntKind} {a b : Int} (h : a = b) : Ending.returned (.int k a) = .returned (.int k b) := by rw [h]

set_option maxHeartbeats 400000 in
theorem number_any (ao : Option Addr) (len cap : Nat) (bs : List UInt8) (w : World) (hl : bs.length = len) (hm : len ≤ 140737488355328) (hb : Bs w ao bs) :
    Calls Tryz.prog 101 #[.slice ao len cap] w fun e w' => e = .returned (.int .u64 (num bs : Nat)) ∧ w' = w := by
  go_enter Tryz.func101, Tryz.ntmps101
  go_wp2
  go_loop [3, 8] (fun n i => ∃ k : Nat, k ≤ len ∧ i = .int .i64 k ∧ n = .int .u64 (num (bs.take k) : Nat)) (fun _ i => len - (intOf i).toNat)
  case atStart => exact ⟨0, Nat.zero_le _, rfl, rfl⟩
  case round =>
    obtain ⟨k, hk, rfl, rfl⟩ := hrel
    by_cases hlt : k < len
    · rcases hb with hb | ⟨b, off, hao, hc⟩
      · subst hb; simp at hl; omega
      · subst hao
        have hck := hc k (by omega)
        have HS : Hid (num (bs.take (k + 1)) = numStep (num (bs.take k)) (bs[k]'(by omega))) := num_snoc bs k (by omega)
        have HB := numStep_bits (num (bs.take k)) (bs[k]'(by omega))
        clear hc
        go_wp2
        go_round
        case rel => exact ⟨k + 1, by omega, by go_num, by rw [HS.out]⟩
        case measure => simp [intOf]; omega
    · have HE : Hid (bs.take k = bs) := List.take_of_length_le (by omega)
      go_wp2
      go_ret
      exact ⟨ret_int (by rw [HE.out]), rfl⟩

theorem elem_u8 : Elem Tryz.prog 22 5 1 := by
  refine ⟨Tryz.underlying22, ?_⟩
  obtain ⟨i0, hi, hz0, hz1, hz2⟩ := info_parts (show (Tryz.prog.info? 5).map (fun i => (i.zero, i.size, i.bytes)) = some (some (.int .u8 0), 1, 1) by kernel_rfl)
  exact ⟨i0, _, hi, hz0, hz1, hz2, rfl⟩

/-- Owned bytes. -/
def OwnB (w : World) (base : Nat) (v : Value) (bs : List UInt8) : Prop := Own w base 5 v (bs.map bv)

set_option maxHeartbeats 400000 in
theorem fresh_any (ao : Option Addr) (len cap : Nat) (bs : List UInt8) (w : World) (hl : bs.length = len) (hm : len ≤ 140737488355328) (hb : Bs w ao bs) :
    Calls Tryz.prog 64 #[.slice ao len cap] w fun e w' => e = .returned (.slice (some ⟨w.heap.size, 0, none⟩) len len) ∧ OwnB w' w.heap.size (.slice (some ⟨w.heap.size, 0, none⟩) len len) bs ∧ Below w.heap.size w w' := by
  obtain ⟨i0, hi, hz0, hz1, hz2⟩ := info_parts (show (Tryz.prog.info? 5).map (fun i => (i.zero, i.size, i.bytes)) = some (some (.int .u8 0), 1, 1) by kernel_rfl)
  go_enter Tryz.func64, Tryz.ntmps64
  go_wp2_with (first | (at_make; refine wpList_make_full _ rfl _ _ 22 rfl w.heap.size 5 i0 (.int .u8 0) 1 Tryz.underlying22 hi hz0 hz1 _ _ _ _ len rfl rfl rfl rfl ?b1 ?b2 ?b3 ?_))
  case b1 => rw [hz2]; omega
  case b2 => unfold maxLen; omega
  case b3 => exact Nat.le_refl _
  intro w1 ho1 hg1
  obtain ⟨cur, hcur, hh⟩ : ∃ cur : List Value, cur.length = len ∧ w1.heap[w.heap.size]? = some (.cells cur.toArray 5 (0, 0)) := by
    rcases ho1.2 with ⟨h, _⟩ | ⟨g, cap', cur, h, _, hg, _, _, hsz, _⟩
    · cases h
    · cases h
      exact ⟨cur.toList, by simpa using hsz, by simpa using hg⟩
  have hb1 : Below w.heap.size w w1 := (Below.refl _ w).grown hg1 (Nat.le_refl _) (fun k h => by cases h)
  have HB : Bs w1 ao bs := by
    rcases hb with h | ⟨b, off, h, hc⟩
    · exact .inl h
    · refine .inr ⟨b, off, h, fun j hj => ?_⟩
      have := hc j hj
      rw [hb1.cell (p := ⟨b, off + j, none⟩) (World.block_lt_of_cell? _ _ this)]
      exact this
  obtain ⟨cs, hcs⟩ : ∃ cs, cs = bs.map bv := ⟨_, rfl⟩
  have hcl : cs.length = len := by rw [hcs, List.length_map, hl]
  have HD : Hid (0 < cs.length → ∃ ad, ao = some ad ∧ ∀ j v, cs[j]? = some v → w1.cell? (ad.add j) = some v) := by
    intro h0
    rcases HB with h | ⟨b, off, h, hc⟩
    · subst h; simp [hcs] at h0
    · refine ⟨⟨b, off, none⟩, h, fun j u hu => ?_⟩
      have hadd : (⟨b, off, none⟩ : Addr).add j = ⟨b, off + j, none⟩ := by unfold Addr.add; split <;> simp_all
      rw [hadd]
      rw [hcs, List.getElem?_map] at hu
      obtain ⟨x, hx, rfl⟩ := Option.map_eq_some_iff.1 hu
      obtain ⟨hj, rfl⟩ := List.getElem?_eq_some_iff.1 hx
      exact hc j hj
  have HO : Hid (∀ u ∈ cs, u.oneCell' = true) := by intro u hu; rw [hcs] at hu; obtain ⟨_, _, rfl⟩ := List.mem_map.1 hu; rfl
  have HC : Hid (cs = bs.map bv) := hcs
  clear ho1 hg1 hb HB hcs
  go_wp2_with (refine wpList_copy_splice rfl (.tmp 7) (.tmp 8) 22 22 rfl 5 Tryz.underlying22 (by rw [hi]; simp [hz1]) _ _ _ _ _ _ rfl rfl w.heap.size 0 cur 5 hh cs (by simp [hcl]) (fun h => ⟨rfl, HD.out h⟩) (by simp [hcl, hcur]) HO.out w.heap.size w hb1 (Nat.le_refl _) ?_)
  intro w2 HG hb2
  go_wp2
  go_ret
  have e : splice cur 0 cs = cs := by
    have : cur.drop cs.length = [] := List.drop_eq_nil_of_le (by omega)
    simp [splice, this]
  have hg2 := HG.out
  rw [e] at hg2
  refine ⟨rfl, ?_, hb2⟩
  unfold OwnB Own
  rw [← HC.out, hcl]
  exact ⟨by omega, .inr ⟨w.heap.size, len, _, rfl, Nat.le_refl _, hg2, Nat.le_refl _, by unfold maxLen; omega, by simp [hcl], List.take_of_length_le (by simp [hcl])⟩⟩

end Go.Proofs.YtpmlnkjamhelnaaGreat
namespace Go.Proofs.YtpmlnkjamhelnaaGreat
open Go.RowKit

/-- The table, as the program lays it. -/
def tabL : List Nat := [0, 498536548, 997073096, 651767980, 1994146192, 1802195444, 1303535960, 1342533948, 3988292384, 4027552580, 3604390888, 3412177804, 2607071920, 2262029012, 2685067896, 3183342108]
def tab (j : Nat) : Nat := tabL.getD j 0
/-- One round of four bits. -/
def crcHalf (c : Nat) : Nat := c / 16 ^^^ tab (c % 16)
def crcByte (c : Nat) (x : UInt8) : Nat := crcHalf (crcHalf (c ^^^ x.toNat))
def crcFold (c : Nat) (bs : List UInt8) : Nat := bs.foldl crcByte c
def crcParts (c : Nat) (bss : List (List UInt8)) : Nat := bss.foldl crcFold c

theorem tab_lt (j : Nat) : tab j < 4294967296 := by
  unfold tab
  by_cases h : j < 16
  · have : ∀ k : Fin 16, tabL.getD k.val 0 < 4294967296 := by decide
    exact this ⟨j, h⟩
  · rw [List.getD_eq_getElem?_getD, List.getElem?_eq_none (by simp [tabL]; omega)]; decide
theorem crcHalf_lt (c : Nat) (h : c < 4294967296) : crcHalf c < 4294967296 :=
  Nat.xor_lt_two_pow (n := 32) (by omega) (tab_lt _)
theorem xor_byte_lt (c : Nat) (x : UInt8) (h : c < 4294967296) : c ^^^ x.toNat < 4294967296 :=
  Nat.xor_lt_two_pow (n := 32) h (by have := x.toNat_lt; omega)
theorem crcByte_lt (c : Nat) (x : UInt8) (h : c < 4294967296) : crcByte c x < 4294967296 :=
  crcHalf_lt _ (crcHalf_lt _ (xor_byte_lt c x h))
theorem crcFold_lt (c : Nat) (bs : List UInt8) (h : c < 4294967296) : crcFold c bs < 4294967296 := by
  unfold crcFold
  induction bs generalizing c with
  | nil => exact h
  | cons x r ih => exact ih _ (crcByte_lt c x h)
theorem crcParts_lt (c : Nat) (bss : List (List UInt8)) (h : c < 4294967296) : crcParts c bss < 4294967296 := by
  unfold crcParts
  induction bss generalizing c with
  | nil => exact h
  | cons x r ih => exact ih _ (crcFold_lt c x h)
theorem crcFold_snoc (c : Nat) (bs : List UInt8) (k : Nat) (h : k < bs.length) : crcFold c (bs.take (k + 1)) = crcByte (crcFold c (bs.take k)) bs[k] := by
  rw [List.take_succ_eq_append_getElem h]
  simp only [crcFold, List.foldl_append, List.foldl_cons, List.foldl_nil]
theorem crcParts_snoc (c : Nat) (bss : List (List UInt8)) (k : Nat) (h : k < bss.length) : crcParts c (bss.take (k + 1)) = crcFold (crcParts c (bss.take k)) bss[k] := by
  rw [List.take_succ_eq_append_getElem h]
  simp only [crcParts, List.foldl_append, List.foldl_cons, List.foldl_nil]
theorem half_bits (c : Nat) (h : c < 4294967296) : ∃ i t : Nat, bits .and .u32 (c : Int) 15 = (i : Int) ∧ i < 16 ∧ tab i = t ∧ bits .xor .u32 ((c : Int) / 16) (t : Int) = ((crcHalf c : Nat) : Int) := by
  refine ⟨c % 16, tab (c % 16), ?_, by omega, rfl, ?_⟩
  · have := u32_and_nat c 15 h (by decide)
    rw [show ((15 : Nat) : Int) = 15 from rfl] at this
    rw [this, show (15 : Nat) = 2 ^ 4 - 1 from rfl, Nat.and_two_pow_sub_one_eq_mod]
  · have := u32_xor_nat (c / 16) (tab (c % 16)) (by omega) (tab_lt _)
    rw [show ((c / 16 : Nat) : Int) = (c : Int) / 16 by omega] at this
    exact this
theorem byte_bits (c : Nat) (x : UInt8) (h : c < 4294967296) : bits .xor .u32 (c : Int) ((x.toNat : Int) % 4294967296) = ((c ^^^ x.toNat : Nat) : Int) := by
  have hx := x.toNat_lt
  rw [show ((x.toNat : Int) % 4294967296) = (x.toNat : Int) by omega]
  exact u32_xor_nat c x.toNat h (by omega)

theorem not_bits (c : Nat) (h : c < 4294967296) : bits .xor .u32 IntKind.u32.max (c : Int) = ((4294967295 - c : Nat) : Int) := by
  have e : IntKind.u32.max = ((4294967295 : Nat) : Int) := rfl
  rw [e, u32_xor_nat 4294967295 c (by decide) h]
  have k : (BitVec.allOnes 32 ^^^ BitVec.ofNat 32 c).toNat = (~~~ BitVec.ofNat 32 c).toNat := by rw [BitVec.allOnes_xor]
  rw [BitVec.toNat_xor, BitVec.toNat_not, BitVec.toNat_allOnes, BitVec.toNat_ofNat, Nat.mod_eq_of_lt (by omega : c < 2 ^ 32)] at k
  have k' : 4294967295 ^^^ c = 4294967295 - c := k
  rw [k']

theorem or_split (k a b : Nat) : a ||| b = (a / 2 ^ k ||| b / 2 ^ k) * 2 ^ k + (a % 2 ^ k ||| b % 2 ^ k) := by
  rw [← Nat.or_div_two_pow, ← Nat.or_mod_two_pow, Nat.mul_comm]
  exact (Nat.div_add_mod _ _).symm
theorem and_split (k a b : Nat) : a &&& b = (a / 2 ^ k &&& b / 2 ^ k) * 2 ^ k + (a % 2 ^ k &&& b % 2 ^ k) := by
  rw [← Nat.and_div_two_pow, ← Nat.and_mod_two_pow, Nat.mul_comm]
  exact (Nat.div_add_mod _ _).symm
theorem mask_255 (n : Nat) : n &&& 255 = n % 256 := by
  have := @Nat.and_two_pow_sub_one_eq_mod n 8
  simpa using this
theorem mask_ff00ff (n : Nat) : n &&& 16711935 = n / 65536 % 256 * 65536 + n % 256 := by
  rw [and_split 16]
  have e1 : 16711935 / 2 ^ 16 = 255 := by decide
  have e2 : 16711935 % 2 ^ 16 = 255 := by decide
  rw [e1, e2, mask_255, mask_255]
  omega
theorem or_bytes (l h : Nat) (hl : l < 256) : l ||| h * 256 = h * 256 + l := nat_join8' (h * 256) l (by omega) hl
theorem or_words (H M : Nat) (hH : H < 65536) (hM : M % 65536 = 0) : H ||| M = M + H := nat_join16' M H hM hH
theorem rev_parts (a b c d : Nat) (ha : a < 256) (hb : b < 256) (hd : d < 256) :
    (d * 65536 + b) ||| (c * 16777216 + a * 256) = (c * 256 + d) * 65536 + (a * 256 + b) := by
  rw [or_split 16, show (2 : Nat) ^ 16 = 65536 from rfl]
  have e1 : (d * 65536 + b) / 65536 = d := by omega
  have k : c * 16777216 + a * 256 = 65536 * (c * 256) + a * 256 := by omega
  have ka : a * 256 < 65536 := by omega
  have e2 : (c * 16777216 + a * 256) / 65536 = c * 256 := by rw [k, Nat.mul_add_div (by decide), Nat.div_eq_of_lt ka, Nat.add_zero]
  have e3 : (d * 65536 + b) % 65536 = b := by omega
  have e4 : (c * 16777216 + a * 256) % 65536 = a * 256 := by rw [k, Nat.mul_add_mod, Nat.mod_eq_of_lt ka]
  rw [e1, e2, e3, e4, or_bytes d c hd, or_bytes b a hb]
/-- Four bytes, turned round. -/
def rev4 (x : Nat) : Nat := x % 256 * 16777216 + x / 256 % 256 * 65536 + x / 65536 % 256 * 256 + x / 16777216
theorem rev_bits (x : Nat) (h : x < 4294967296) :
    bits BinOp.or IntKind.u32
                        (bits BinOp.or IntKind.u32 (bits BinOp.and IntKind.u32 ((x : Int) / 256) 16711935)
                            (bits BinOp.and IntKind.u32 (x : Int) 16711935 * 256 % 4294967296) /
                          65536)
                        (bits BinOp.or IntKind.u32 (bits BinOp.and IntKind.u32 ((x : Int) / 256) 16711935)
                              (bits BinOp.and IntKind.u32 (x : Int) 16711935 * 256 % 4294967296) *
                            65536 %
                          4294967296) = ((rev4 x : Nat) : Int) := by
  have m : ((16711935 : Nat) : Int) = 16711935 := rfl
  have a1 := u32_and_nat (x / 256) 16711935 (by omega) (by decide)
  rw [m, show ((x / 256 : Nat) : Int) = (x : Int) / 256 by omega, mask_ff00ff] at a1
  have a2 := u32_and_nat x 16711935 h (by decide)
  rw [m, mask_ff00ff] at a2
  rw [a1, a2]
  obtain ⟨a, ha⟩ : ∃ a, a = x % 256 := ⟨_, rfl⟩
  obtain ⟨b, hb⟩ : ∃ b, b = x / 256 % 256 := ⟨_, rfl⟩
  obtain ⟨c, hc⟩ : ∃ c, c = x / 65536 % 256 := ⟨_, rfl⟩
  obtain ⟨d, hd⟩ : ∃ d, d = x / 16777216 := ⟨_, rfl⟩
  have hd' : x / 256 / 65536 % 256 = d := by omega
  have hr : rev4 x = a * 16777216 + b * 65536 + c * 256 + d := by unfold rev4; omega
  rw [hr, ← ha, ← hb, ← hc, hd']
  have ba : a < 256 := by omega
  have bb : b < 256 := by omega
  have bc : c < 256 := by omega
  have bd : d < 256 := by omega
  clear ha hb hc hd hd' a1 a2 hr h
  have e1 : (((c * 65536 + a : Nat) : Int) * 256 % 4294967296) = ((c * 16777216 + a * 256 : Nat) : Int) := by omega
  rw [e1, u32_or_nat _ _ (by omega) (by omega), rev_parts a b c d ba bb bd]
  have e2 : ((((c * 256 + d) * 65536 + (a * 256 + b) : Nat) : Int) / 65536) = ((c * 256 + d : Nat) : Int) := by omega
  have n3 : ((c * 256 + d) * 65536 + (a * 256 + b)) * 65536 % 4294967296 = a * 16777216 + b * 65536 := by
    have k : ((c * 256 + d) * 65536 + (a * 256 + b)) * 65536 = 4294967296 * (c * 256 + d) + (a * 16777216 + b * 65536) := by omega
    rw [k, Nat.mul_add_mod, Nat.mod_eq_of_lt (by omega)]
  have e3 : ((((c * 256 + d) * 65536 + (a * 256 + b) : Nat) : Int) * 65536 % 4294967296) = ((a * 16777216 + b * 65536 : Nat) : Int) := by
    rw [← n3, Int.natCast_emod, Int.natCast_mul]; rfl
  have h1 : a * 16777216 = 65536 * (a * 256) := by omega
  have h2 : (a * 16777216 + b * 65536) % 65536 = 0 := by rw [h1, Nat.mul_add_mod, Nat.mul_mod_left]
  rw [e2, e3, u32_or_nat _ _ (by omega) (by omega), or_words (c * 256 + d) (a * 16777216 + b * 65536) (by omega) h2, ← Nat.add_assoc]

theorem rev4_lt (x : Nat) (h : x < 4294967296) : rev4 x < 4294967296 := by unfold rev4; omega

end Go.Proofs.YtpmlnkjamhelnaaGreat
