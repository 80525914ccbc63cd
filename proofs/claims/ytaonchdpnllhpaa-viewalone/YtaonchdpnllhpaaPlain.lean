/- Plain facts on bytes, numbers and memory that the walks over package wire lean on. -/
import Derived.WalkKit
import Derived.WalkSpells
import Derived.Deep.AppendLies
import Derived.Deep.AppendSrc
namespace Go.Proofs.Ytaonchdpnllhpaa
open Go.RowKit

theorem hid {p : Prop} (h : p) : Hid p := h
/-- A byte's cell. -/
abbrev bv (b : UInt8) : Value := .int .u8 (b.toNat : Int)

/-- At ao there lie the bytes bs (of none nothing is asked). -/
def Bs (w : World) (ao : Option Addr) (bs : List UInt8) : Prop :=
  bs = [] ∨ ∃ b off, ao = some ⟨b, off, none⟩ ∧ ∀ j (h : j < bs.length), w.cell? ⟨b, off + j, none⟩ = some (.int .u8 (bs[j].toNat : Int))

/-- A number's lowest bytes, the highest first. -/
def be (n size : Nat) : List UInt8 := (List.range size).map fun j => UInt8.ofNat (n / 256 ^ (size - 1 - j))

theorem be_length (n size : Nat) : (be n size).length = size := by simp [be]
theorem be_take (n size k : Nat) (h : k < size) : (be n size).take (k + 1) = (be n size).take k ++ [UInt8.ofNat (n / 256 ^ (size - 1 - k))] := by
  rw [List.take_succ_eq_append_getElem (by rw [be_length]; exact h)]
  simp [be]

theorem be_byte (n e : Nat) : ((n : Int) / 2 ^ (8 * e)) % 256 = (((UInt8.ofNat (n / 256 ^ e)).toNat : Nat) : Int) := by
  have h : (2 : Nat) ^ (8 * e) = 256 ^ e := by rw [Nat.pow_mul]
  have h' : ((2 : Int) ^ (8 * e)) = ((256 ^ e : Nat) : Int) := by rw [← h]; norm_cast
  rw [h', UInt8.toNat_ofNat', ← Int.natCast_ediv]
  generalize n / 256 ^ e = m
  omega
/-- One cell in a new block of its own. -/
theorem new_one (w : World) (x y : Value) (t : TypeId) (h : x = y) : ∀ j u, [y][j]? = some u → (w.alloc (.cells #[x] t)).cell? ((⟨w.heap.size, 0, none⟩ : Addr).add j) = some u := by
  subst h
  exact World.news_of_block (heap_alloc_new w _)

/-- Bytes as a number of 64 bits, the highest first. -/
def numStep (n : Nat) (x : UInt8) : Nat := (n * 256 + x.toNat) % 18446744073709551616
def num (bs : List UInt8) : Nat := bs.foldl numStep 0
theorem num_lt (bs : List UInt8) : num bs < 18446744073709551616 := by
  unfold num
  rcases List.eq_nil_or_concat bs with rfl | ⟨l, x, rfl⟩
  · decide
  · simp only [List.concat_eq_append, List.foldl_append, List.foldl_cons, List.foldl_nil]
    exact Nat.mod_lt _ (by decide)
theorem num_snoc (bs : List UInt8) (k : Nat) (h : k < bs.length) : num (bs.take (k + 1)) = numStep (num (bs.take k)) bs[k] := by
  rw [List.take_succ_eq_append_getElem h]
  simp only [num, List.foldl_append, List.foldl_cons, List.foldl_nil]
theorem numStep_bits (n : Nat) (x : UInt8) :
    bits BinOp.or IntKind.u64 (IntKind.u64.wrap ((n : Int) * 256)) (IntKind.u64.wrap (x.toNat : Int)) = ((numStep n x : Nat) : Int) := by
  have hx : x.toNat < 256 := x.toNat_lt
  rw [IntKind.wrap_u64, IntKind.wrap_u64]
  have e1 : ((n : Int) * 256) % 18446744073709551616 = ((n * 256 % 18446744073709551616 : Nat) : Int) := by omega
  have e2 : (x.toNat : Int) % 18446744073709551616 = (x.toNat : Int) := by omega
  rw [e1, e2, u64_or_nat _ _ (Nat.mod_lt _ (by decide)) (by omega), nat_join8 _ _ (by omega) hx]
  unfold numStep
  omega

theorem grown_trans {a b c : World} {r s : Option Nat} (h : a.grownBy b r) (k : b.grownBy c s) (hs : s = r ∨ ∃ g, s = some g ∧ a.heap.size ≤ g) : a.grownBy c r := by
  refine ⟨k.os.trans h.os, k.tape.trans h.tape, k.output.trans h.output, Nat.le_trans h.size k.size, fun i hi hne => ?_⟩
  rw [k.block i (Nat.lt_of_lt_of_le hi h.size) ?_, h.block i hi hne]
  rcases hs with rfl | ⟨g, rfl, hg⟩
  · exact hne
  · intro e; cases e; omega
theorem grown_refl (a : World) (r : Option Nat) : a.grownBy a r := ⟨rfl, rfl, rfl, Nat.le_refl _, fun _ _ _ => rfl⟩
theorem grown_drew (a : World) (r : Option Nat) : a.grownBy a.drew r := ⟨rfl, rfl, rfl, Nat.le_refl _, fun _ _ _ => rfl⟩

/-- The slice v (of elements of type e, one cell each) is the call's own: its cells are xs, its row lies in a block from base on. -/
def Own (w : World) (base : Nat) (e : TypeId) (v : Value) (xs : List Value) : Prop := w.ownsRow base e 1 v xs.length xs
/-- From w and v to w' and v': of what was there nothing has turned but v's own row; v' lies in that row, or in a new block. -/
def Step (w : World) (v : Value) (w' : World) (v' : Value) : Prop := w.grownBy w' v.ownBlock ∧ (v'.ownBlock = v.ownBlock ∨ ∃ g, v'.ownBlock = some g ∧ w.heap.size ≤ g)

theorem Step.refl (w : World) (v : Value) : Step w v w v := ⟨grown_refl _ _, .inl rfl⟩
theorem Step.trans {a b c : World} {u v x : Value} (h : Step a u b v) (k : Step b v c x) : Step a u c x := by
  refine ⟨grown_trans h.1 k.1 h.2, ?_⟩
  rcases k.2 with e | ⟨g, e, hg⟩
  · rw [e]; exact h.2
  · exact .inr ⟨g, e, Nat.le_trans h.1.size hg⟩
theorem Step.alloc {a b : World} {u v : Value} (h : Step a u b v) (o : Obj) : Step a u (b.alloc o) v :=
  ⟨grown_trans h.1 (World.grownBy_alloc b o v.ownBlock) h.2, h.2⟩
theorem Step.drew {a b : World} {u v : Value} (h : Step a u b v) : Step a u b.drew v := ⟨grown_trans h.1 (grown_drew b v.ownBlock) h.2, h.2⟩
theorem Step.size {a b : World} {u v : Value} (h : Step a u b v) : a.heap.size ≤ b.heap.size := h.1.size
theorem Step.below {a b : World} {u v : Value} (h : Step a u b v) {B : Nat} (hB : B ≤ a.heap.size) (hu : ∀ k, u.ownBlock = some k → B ≤ k) : Below B a b :=
  (Below.refl B a).grown h.1 hB hu

theorem Own.alloc {w : World} {base : Nat} {e : TypeId} {v : Value} {xs : List Value} (h : Own w base e v xs) (o : Obj) : Own (w.alloc o) base e v xs := World.ownsRow.alloc h o
theorem Own.drew {w : World} {base : Nat} {e : TypeId} {v : Value} {xs : List Value} (h : Own w base e v xs) : Own w.drew base e v xs := World.ownsRow.drew h
theorem Own.nil (w : World) (base : Nat) (e : TypeId) : Own w base e (.slice none 0 0) [] := World.ownsRow_nil w base e 1
theorem Own.kept {w w' : World} {base : Nat} {e : TypeId} {v : Value} {xs : List Value} {row : Option Nat} (h : Own w base e v xs) (hg : w.grownBy w' row) (hne : v.ownBlock = none ∨ v.ownBlock ≠ row) : Own w' base e v xs := World.ownsRow.kept h hg hne
theorem Own.lt {w : World} {base : Nat} {e : TypeId} {v : Value} {xs : List Value} (h : Own w base e v xs) : ∀ k, v.ownBlock = some k → base ≤ k ∧ k < w.heap.size := World.ownsRow.lt h
theorem Own.mono {w : World} {base base' : Nat} {e : TypeId} {v : Value} {xs : List Value} (h : Own w base e v xs) (hb : ∀ k, v.ownBlock = some k → base' ≤ k) : Own w base' e v xs := by
  refine ⟨h.1, ?_⟩
  rcases h.2 with h2 | ⟨g, cap, cur, rfl, _, r⟩
  · exact .inl h2
  · exact .inr ⟨g, cap, cur, rfl, hb g rfl, r⟩
/-- What an owned slice looks like. -/
theorem Own.form {w : World} {base : Nat} {e : TypeId} {v : Value} {xs : List Value} (h : Own w base e v xs) : ∃ ao cap, v = .slice ao xs.length cap ∧ xs.length ≤ cap ∧ cap ≤ maxLen ∧ v.ownBlock = ao.map (·.block) ∧
    (ao = none → cap = 0) ∧ (∀ b, ao = some b → ∃ g, b = ⟨g, 0, none⟩ ∧ ∀ j u, xs[j]? = some u → w.cell? ⟨g, j, none⟩ = some u) := by
  rcases h.2 with ⟨rfl, h0⟩ | ⟨g, cap, cur, rfl, hb, hg, hle, hmx, hsz, htk⟩
  · have : xs = [] := List.eq_nil_of_length_eq_zero h0
    subst this
    exact ⟨none, 0, rfl, Nat.le_refl _, Nat.zero_le _, rfl, (fun _ => rfl), (fun _ e => by cases e)⟩
  · refine ⟨some ⟨g, 0, none⟩, cap, rfl, hle, hmx, rfl, (fun e => by cases e), (fun b e => ⟨g, (by cases e; rfl), fun j u hu => ?_⟩)⟩
    have := World.ownsRow.cells h (g := g) rfl j u hu
    have hadd : (⟨g, 0, none⟩ : Addr).add j = ⟨g, j, none⟩ := by unfold Addr.add; split <;> simp_all
    rw [hadd] at this
    exact this
theorem Own.bs {w : World} {base : Nat} {e : TypeId} {v : Value} {bs : List UInt8} (h : Own w base e v (bs.map bv)) : ∃ ao cap, v = .slice ao bs.length cap ∧ bs.length ≤ cap ∧ cap ≤ maxLen ∧ Bs w ao bs ∧ v.ownBlock = ao.map (·.block) ∧ (ao = none → cap = 0) := by
  obtain ⟨ao, cap, hv, h1, h2, h3, h4, h5⟩ := h.form
  rw [List.length_map] at hv h1
  refine ⟨ao, cap, hv, h1, h2, ?_, h3, h4⟩
  cases ao with
  | none => left; have := h4 rfl; exact List.eq_nil_of_length_eq_zero (by omega)
  | some b =>
    obtain ⟨g, rfl, hc⟩ := h5 b rfl
    refine .inr ⟨g, 0, rfl, fun j hj => ?_⟩
    rw [Nat.zero_add]
    exact hc j _ (by simp [List.getElem?_eq_getElem hj])

/-- The elements' type: one cell, so many bytes. -/
structure Elem (P : Program) (t e : TypeId) (bytes : Nat) : Prop where
  ht : P.underlying t = some (.slice e)
  hi : ∃ i z, P.info? e = some i ∧ i.zero = some z ∧ i.size = 1 ∧ i.bytes = bytes ∧ z.cells.size = 1

section
variable {P : Program} (w : World)
/-- append onto an owned slice, from whatever source. -/
theorem run_app {t tx ty e : TypeId} {bytes : Nat} (E : Elem P t e bytes) (base : Nat) (v : Value) (xs : List Value) (hown : Own w base e v xs) (x : Value) (news : List Value) (hs : Src P 1 tx x news.length news w)
    (h63 : xs.length + news.length ≤ maxLen) (hbytes : (xs.length + news.length) * bytes ≤ 140737488355328) (hbase : base ≤ w.heap.size) :
    ∃ v' w', (Builtin.append_ #[t, tx] ty #[v, x]).run P w = .ok v' w' ∧ Own w' base e v' (xs ++ news) ∧ Step w v w' v' := by
  obtain ⟨ht, i, z, hi, hz, hsize, rfl, hzs⟩ := E
  have hs' : Src P i.size tx x news.length news w := by rw [hsize]; exact hs
  have hsmall : xs.length + news.length ≤ 9223372036854775807 := by simp only [maxLen] at h63; omega
  have grown : ∀ (old : Nat), old < xs.length + news.length → ∀ u : Value,
      Own (w.drew.alloc (.cells ((xs ++ news).toArray ++ Builtin.zeroCells z.cells (grownCap w (xs.length + news.length) old e - (xs.length + news.length))) e)) base e
        (.slice (some ⟨w.heap.size, 0, none⟩) (xs.length + news.length) (grownCap w (xs.length + news.length) old e)) (xs ++ news) ∧
      Step w u (w.drew.alloc (.cells ((xs ++ news).toArray ++ Builtin.zeroCells z.cells (grownCap w (xs.length + news.length) old e - (xs.length + news.length))) e)) (.slice (some ⟨w.heap.size, 0, none⟩) (xs.length + news.length) (grownCap w (xs.length + news.length) old e)) := by
    intro old ho u
    have hge := grownCap_ge w (xs.length + news.length) old e
    have hcm : grownCap w (xs.length + news.length) old e ≤ maxLen := grownCap_le_maxLen w (xs.length + news.length) old e h63
    refine ⟨⟨by simp, .inr ⟨w.heap.size, _, _, by rw [List.length_append], hbase, heap_alloc_new w.drew _, by rw [List.length_append]; exact hge, hcm, ?_, ?_⟩⟩, ⟨⟨rfl, rfl, rfl, by simp, fun k hk _ => Below.heap_alloc w.drew _ k hk⟩, .inr ⟨w.heap.size, rfl, Nat.le_refl _⟩⟩⟩
    · simp only [Array.size_append, List.size_toArray, List.length_append, size_zeroCells, hzs]
      omega
    · simp only [Array.toList_append, Nat.mul_one]
      exact List.take_left
  rcases hown.2 with ⟨rfl, h0⟩ | ⟨g, cap, cur, rfl, hbg, hg, hnc, hcm, hcs, htake⟩
  · have hx : xs = [] := List.eq_nil_of_length_eq_zero h0
    subst hx
    by_cases hm : news.length = 0
    · obtain rfl : news = [] := List.eq_nil_of_length_eq_zero hm
      refine ⟨.slice none 0 0, w, ?_, Own.nil w base e, Step.refl _ _⟩
      have hc : (Builtin.firstCells i.size 0 x).run P w = .ok #[] w := hs'.cells
      rcases hs'.kind with ⟨e', hk⟩ | hk <;> simp [Builtin.append_, run_underlying ht, run_underlying hk, sizeOf, typeInfo, hi, hs'.len, hc]
    · have hr := run_append_grow_src (P := P) w t tx ty e i z ht hi hz none 0 0 [] (by simp [Builtin.firstCells]) x news.length news hs' (by omega) (by have := hsmall; simp only [List.length_nil, Nat.zero_add] at this ⊢; omega) (growslice_fits (by omega) (by simpa using hbytes))
      have hgr := grown 0 (by simp; omega) (.slice none 0 0)
      simp only [List.length_nil, Nat.zero_add, List.nil_append] at hgr hr ⊢
      exact ⟨_, _, hr, hgr.1, hgr.2⟩
  · by_cases hroom : xs.length + news.length ≤ cap
    · have hst := run_storeCells_at P g xs.length e news 0 cur w hg (by rw [hcs]; omega) hs.one
      simp only [Nat.add_zero] at hst
      refine ⟨.slice (some ⟨g, 0, none⟩) (xs.length + news.length) cap, w.setRow g (cur.toList.take xs.length ++ news ++ cur.toList.drop (xs.length + news.length)).toArray, ?_, ⟨by simp, .inr ⟨g, cap, _, by rw [List.length_append], hbg, setRow_heap w g cur _ e _ hg, by rw [List.length_append]; exact hroom, hcm, ?_, ?_⟩⟩,
        ⟨⟨rfl, rfl, rfl, by simp, fun k _ hk => setRow_other w g k _ (fun e => hk (by simp [Value.ownBlock, e]))⟩, .inl rfl⟩⟩
      · rcases hs'.kind with ⟨e', hk⟩ | hk <;> simp [Builtin.append_, run_underlying ht, run_underlying hk, sizeOf, typeInfo, hi, hsize, hs'.len, hroom, (hsize ▸ hs'.cells), Addr.add_lit, hst]
      · simp only [List.size_toArray, List.length_append, List.length_take, List.length_drop, Array.length_toList]
        omega
      · simp only [Nat.mul_one] at htake ⊢
        rw [htake]
        exact List.take_left
    · have holds : ∀ j u, xs[j]? = some u → w.drew.cell? ((⟨g, 0, none⟩ : Addr).add j) = some u := by simpa using World.ownsRow.cells hown (g := g) rfl
      have hr := run_append_grow_src (P := P) w t tx ty e i z ht hi hz (some ⟨g, 0, none⟩) xs.length cap xs (run_firstCells_some w.drew i.size xs.length ⟨g, 0, none⟩ xs.length cap xs (by rw [hsize, Nat.mul_one]) holds) x news.length news hs' (by omega) (by omega) (growslice_fits (by omega) hbytes)
      have hgr := grown cap (by omega) (.slice (some ⟨g, 0, none⟩) xs.length cap)
      exact ⟨_, _, hr, hgr.1, hgr.2⟩

theorem wp_app {o : Oper} {a : Act} {K : Act → World → Prop} {Q : Exit → Act → World → Prop} (s x : Operand) (t tx : TypeId) (ho : o.op = .call { callee := .builtin .append, args := #[s, x], argTypes := #[t, tx] })
    {e : TypeId} {bytes : Nat} (E : Elem P t e bytes) (base : Nat) (v : Value) (xs : List Value) (hv : a.eval s = v) (hown : Own w base e v xs) (y : Value) (hy : a.eval x = y) (news : List Value) (hs : Src P 1 tx y news.length news w)
    (h63 : xs.length + news.length ≤ maxLen) (hbytes : (xs.length + news.length) * bytes ≤ 140737488355328) (hbase : base ≤ w.heap.size)
    (h : ∀ v' w', Own w' base e v' (xs ++ news) → Step w v w' v' → K (a.put o.dst v') w') : o.wp P a w K Q := by
  obtain ⟨v', w', hr, h2, h3⟩ := run_app (P := P) w (ty := o.type) E base v xs hown y news hs h63 hbytes hbase
  unfold Oper.wp execOp
  simp only [ho, resolve, invoke, builtin, Sem.run_bind, Sem.run_pure, Result.andThen_ok, List.map_toArray, List.map_cons, List.map_nil, hv, hy, hr]
  exact h v' w' h2 h3
theorem wpList_app {ops : Array Oper} {rest : List Oper} {o : Oper} {a : Act} {Q : Exit → Act → World → Prop} (hgd : o.guard = none) (s x : Operand) (t tx : TypeId) (ho : o.op = .call { callee := .builtin .append, args := #[s, x], argTypes := #[t, tx] })
    {e : TypeId} {bytes : Nat} (E : Elem P t e bytes) (base : Nat) (v : Value) (xs : List Value) (hv : a.eval s = v) (hown : Own w base e v xs) (y : Value) (hy : a.eval x = y) (news : List Value) (hs : Src P 1 tx y news.length news w)
    (h63 : xs.length + news.length ≤ maxLen) (hbytes : (xs.length + news.length) * bytes ≤ 140737488355328) (hbase : base ≤ w.heap.size)
    (h : ∀ v' w', Own w' base e v' (xs ++ news) → Step w v w' v' → wpList P ops Q rest (a.put o.dst v') w') : wpList P ops Q (o :: rest) a w :=
  wpList_plain hgd fun _ hK => wp_app w s x t tx ho E base v xs hv hown y hy news hs h63 hbytes hbase fun v' w' h2 h3 => hK _ _ (h v' w' h2 h3)
theorem step_app {ops : Array Oper} {o : Oper} {a : Act} {K : Act → World → Prop} {Q : Exit → Act → World → Prop} {X : Prop} (hgd : o.guard = none) (s x : Operand) (t tx : TypeId) (ho : o.op = .call { callee := .builtin .append, args := #[s, x], argTypes := #[t, tx] })
    {e : TypeId} {bytes : Nat} (E : Elem P t e bytes) (base : Nat) (v : Value) (xs : List Value) (hv : a.eval s = v) (hown : Own w base e v xs) (y : Value) (hy : a.eval x = y) (news : List Value) (hs : Src P 1 tx y news.length news w)
    (h63 : xs.length + news.length ≤ maxLen) (hbytes : (xs.length + news.length) * bytes ≤ 140737488355328) (hbase : base ≤ w.heap.size)
    (h : ∀ v' w', Own w' base e v' (xs ++ news) → Step w v w' v' → K (a.put o.dst v') w') :
    if Region.wanted o (yielded ops a.tmps) = true then Oper.wp P o a w K Q else X := by
  have hw : Region.wanted o (yielded ops a.tmps) = true := by simp [Region.wanted, hgd]
  rw [if_pos hw]
  exact wp_app w s x t tx ho E base v xs hv hown y hy news hs h63 hbytes hbase h

/-- Sources: one new element; bytes that lie somewhere; a string. -/
theorem src_one {tx e' : TypeId} (hk : P.underlying tx = some (.slice e')) (x y : Value) (t : TypeId) (h : x = y) (h1 : y.oneCell' = true) (c : Nat) : Src P 1 tx (.slice (some ⟨w.heap.size, 0, none⟩) 1 c) [y].length [y] (w.alloc (.cells #[x] t)) := by
  subst h
  exact Src.ofSlice _ hk _ 1 c [x] rfl (World.news_of_block (heap_alloc_new w _)) (by intro u hu; simp at hu; subst hu; exact h1)
theorem src_bs {tx e' : TypeId} (hk : P.underlying tx = some (.slice e')) {ao : Option Addr} {bs : List UInt8} (hb : Bs w ao bs) (c : Nat) : Src P 1 tx (.slice ao bs.length c) (bs.map bv).length (bs.map bv) w := by
  rw [List.length_map]
  rcases hb with rfl | ⟨b, off, rfl, hc⟩
  · cases ao with
    | none => exact Src.ofNil w hk c
    | some a => exact Src.ofSlice w hk a 0 c [] rfl (fun j u h => by simp at h) (fun u h => by cases h)
  · refine Src.ofSlice w hk _ _ c _ (by simp) (fun j u hu => ?_) (fun u hu => ?_)
    · have hadd : (⟨b, off, none⟩ : Addr).add j = ⟨b, off + j, none⟩ := by unfold Addr.add; split <;> simp_all
      rw [hadd]
      rw [List.getElem?_map] at hu
      obtain ⟨x, hx, rfl⟩ := Option.map_eq_some_iff.1 hu
      obtain ⟨hj, rfl⟩ := List.getElem?_eq_some_iff.1 hx
      exact hc j hj
    · obtain ⟨_, _, rfl⟩ := List.mem_map.1 hu; rfl
theorem src_str {tx : TypeId} (hk : P.underlying tx = some .string) (bs : List UInt8) : Src P 1 tx (.string ⟨bs.toArray⟩) (bs.map bv).length (bs.map bv) w := by
  have := Src.ofString (P := P) w hk ⟨bs.toArray⟩
  have e : (⟨bs.toArray⟩ : ByteArray).size = bs.length := by simp [ByteArray.size]
  rw [e] at this
  simpa [byteCells] using this
end

end Go.Proofs.Ytaonchdpnllhpaa
