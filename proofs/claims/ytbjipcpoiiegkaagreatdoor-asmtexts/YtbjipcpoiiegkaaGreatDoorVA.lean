/- What value's simple functions come to. value.Right, whole; allRight. value.allRight. What value's bytesWord comes to: a strings.Builder written byte by byte beside a row of bytes. value.word. The library's variables as they were laid. -/
import Derived.Test.YtbjipcpoiiegkaaGreatDoorChecked
import Derived.WalkKit
import Derived.WalkSpells
import Derived.BigQuiet
import Derived.Deep.QuietTactic
import Derived.Deep.RegionWith
import Derived.Laws.StructEq
import Derived.Test.YtbjipcpoiiegkaaGreatDoorShelf
import Derived.RangeFuncBox
import Derived.Maps.AppendAt
import Derived.Maps.OwnIn
import Derived.Lib.ConvBytes
import Derived.Lib.AtoiErrMem
import Derived.Lib.AppendIntMem
namespace Go.Proofs.YtbjipcpoiiegkaaGreatDoor
open Go.RowKit

/-- A value of scripts: its Type, N and B. -/
structure Val where
  t : Int
  n : Int
  b : List UInt8
deriving DecidableEq
def Val.v (x : Val) : Value := .agg #[.int .i64 x.t, .int .i64 x.n, .string ⟨x.b.toArray⟩]
/-- May it be? -/
def Val.right (x : Val) : Bool :=
  if x.t = 1 then decide (x.b = []) else if x.t = 2 then decide (x.n = 0) && decide (x.b.length ≤ 256) else if x.t = 3 then (decide (x.n = 0) || decide (x.n = 1)) && decide (x.b = []) else false

theorem results_cell {fn : Func} {t : Tmp} {ty : TypeId} (h : fn.results = #[.cell t ty]) (tmps : Array Value) (P : Program) (w : World) (a : Addr) (v : Value) (ha : tmps[t]?.getD undef = .pointer (some a)) (hl : (loadVar ty a).run P w = .ok v w) :
    (results fn tmps).run P w = .ok v w := by
  simp [results, h, ha, asAddr, hl]
/-- A value in a block. -/
def ValAt (w : World) (b : Nat) (x : Val) : Prop := w.cell? ⟨b, 0, none⟩ = some (.int .i64 x.t) ∧ w.cell? ⟨b, 1, none⟩ = some (.int .i64 x.n) ∧ w.cell? ⟨b, 2, none⟩ = some (.string ⟨x.b.toArray⟩)
theorem load_val {w : World} {b : Nat} {x : Val} (h : ValAt w b x) : (loadVar 54 ⟨b, 0, none⟩).run Tryz.prog w = .ok x.v w := by
  obtain ⟨h0, h1, h2⟩ := h
  simp [loadVar, go_sem, h0, h1, h2]
  rfl
/-- A value's box. -/
def Val.box (x : Val) : Obj := .cells #[.int .i64 x.t, .int .i64 x.n, .string ⟨x.b.toArray⟩] 54
theorem val_new (w : World) (x : Val) : ValAt (w.alloc x.box) w.heap.size x := by
  have h := heap_alloc_new w x.box
  exact ⟨by rw [cell_of_row _ _ 0 _ _ (0, 0) h]; rfl, by rw [cell_of_row _ _ 1 _ _ (0, 0) h]; rfl, by rw [cell_of_row _ _ 2 _ _ (0, 0) h]; rfl⟩
theorem ret_val {fn : Func} {R : Ending → World → Prop} {a : Act} {t : Tmp} (w : World) (x : Val) (h : fn.results = #[.cell t 54]) (ha : a.tmps[t]?.getD undef = .pointer (some ⟨w.heap.size, 0, none⟩)) (hd : a.defers = []) (hR : R (.returned x.v) (w.alloc x.box)) : bodyPost Tryz.prog fn R .ret a (w.alloc x.box) :=
  bodyPost_ret (results_cell h _ _ _ _ _ ha (load_val (val_new w x))) hd hR

theorem ret_at {fn : Func} {R : Ending → World → Prop} {a : Act} {t : Tmp} (w : World) (b : Nat) (x : Val) (h : fn.results = #[.cell t 54]) (ha : a.tmps[t]?.getD undef = .pointer (some ⟨b, 0, none⟩)) (hd : a.defers = []) (hv : ValAt w b x) (hR : R (.returned x.v) w) : bodyPost Tryz.prog fn R .ret a w :=
  bodyPost_ret (results_cell h _ _ _ _ _ ha (load_val hv)) hd hR
theorem ValAt.keep {w w' : World} {b : Nat} {x : Val} (h : ValAt w b x) (hk : ∀ a v, w.cell? a = some v → w'.cell? a = some v) : ValAt w' b x := ⟨hk _ _ h.1, hk _ _ h.2.1, hk _ _ h.2.2⟩
theorem keep_alloc (w : World) (o : Obj) : ∀ a v, w.cell? a = some v → (w.alloc o).cell? a = some v := fun a v h => by
  rw [((Below.refl _ w).alloc (Nat.le_refl _) o).cell (p := a) (World.block_lt_of_cell? _ _ h)]; exact h

theorem number_any' (n : Int) (w : World) : Calls Tryz.prog 34 #[.int .i64 n] w fun e w' => e = .returned (Val.v ⟨1, n, []⟩) ∧ w' = w.alloc (Val.box ⟨1, n, []⟩) := by
  go_enter Tryz.func34, Tryz.ntmps34
  go_wp2
  exact ret_val w ⟨1, n, []⟩ rfl rfl rfl ⟨rfl, rfl⟩
theorem text_any' (s : List UInt8) (w : World) : Calls Tryz.prog 47 #[.string ⟨s.toArray⟩] w fun e w' => e = .returned (Val.v ⟨2, 0, s⟩) ∧ w' = w.alloc (Val.box ⟨2, 0, s⟩) := by
  go_enter Tryz.func47, Tryz.ntmps47
  go_wp2
  exact ret_val w ⟨2, 0, s⟩ rfl rfl rfl ⟨rfl, rfl⟩
def Val.truth (c : Bool) : Val := ⟨3, if c then 1 else 0, []⟩
theorem truth_any' (c : Bool) (w : World) : Calls Tryz.prog 79 #[.bool c] w fun e w' => e = .returned (Val.v (Val.truth c)) ∧ w' = (w.alloc (Val.box (Val.truth c))).alloc (Val.box (Val.truth c)) := by
  cases c
  all_goals
    go_enter Tryz.func79, Tryz.ntmps79
    go_wp2
    first
      | exact ret_at _ w.heap.size (Val.truth false) rfl rfl rfl ((val_new w (Val.truth false)).keep (keep_alloc _ _)) ⟨rfl, rfl⟩
      | exact ret_at _ w.heap.size (Val.truth true) rfl rfl rfl ((val_new w (Val.truth true)).keep (keep_alloc _ _)) ⟨rfl, rfl⟩
theorem eq_val (t n s m : Int) (b c : List UInt8) (w : World) : (Op.equalIn 10000 54 (.agg #[.int .i64 t, .int .i64 n, .string ⟨b.toArray⟩]) (.agg #[.int .i64 s, .int .i64 m, .string ⟨c.toArray⟩])).run Tryz.prog w = .ok (t == s && (n == m && decide (b = c))) w := by
  have hS : Tryz.prog.underlying 54 = some (.struct (Tryz.prog.fieldsOf 54)) := by kernel_rfl
  rw [show (10000 : Nat) = 9999 + 1 from rfl, run_equalIn_agg w 9999 54 _ _ hS (by kernel_rfl)]
  simp only [Program.fieldsOf, Tryz.underlying54]
  go_simp
  by_cases h1 : t = s <;> by_cases h2 : n = m <;> by_cases h3 : b = c <;> simp [h1, h2, h3]
theorem eq_val0 (t n s m : Int) (b : List UInt8) (w : World) : (Op.equalIn 10000 54 (.agg #[.int .i64 t, .int .i64 n, .string ⟨b.toArray⟩]) (.agg #[.int .i64 s, .int .i64 m, .string ⟨#[]⟩])).run Tryz.prog w = .ok (t == s && (n == m && decide (b = []))) w := eq_val t n s m b [] w

attribute [local go_sem high] eq_val eq_val0
set_option maxRecDepth 100000 in
set_option maxHeartbeats 1000000 in
/-- All but Bytes with another N than 0 (there a guarded part of a region that draws is left out: not walked yet). -/
theorem right_most (x : Val) (_hb : x.b.length ≤ 9223372036854775807) (hx : x.t = 2 → x.n = 0) (w : World) : Calls Tryz.prog 76 #[x.v] w fun e w' => e = .returned (.bool x.right) ∧ Below w.heap.size w w' := by
  obtain ⟨t, n, b⟩ := x
  simp only [Val.v, Val.right] at _hb hx ⊢
  by_cases h1 : t = 1
  · subst h1
    go_enter Tryz.func76, Tryz.ntmps76
    go_wp2
    go_region_with (first | (go_at_call 34; refine (number_any' _ _).mono ?_; rintro e w' ⟨rfl, rfl⟩; simp only [Val.box, Val.v]))
    all_goals go_wp2
    all_goals (go_ret; exact ⟨rfl, (((Below.refl _ w).alloc (Nat.le_refl _) _).alloc (by simp) _).drew⟩)
  by_cases h2 : t = 2
  · subst h2
    obtain rfl : n = 0 := hx rfl
    · go_enter Tryz.func76, Tryz.ntmps76
      go_wp2
      go_region_with (first | (go_at_call 47; refine (text_any' _ _).mono ?_; rintro e w' ⟨rfl, rfl⟩; simp only [Val.box, Val.v]))
      all_goals go_wp2
      all_goals (go_ret; exact ⟨by first | rfl | (simp; omega) | simp, (((Below.refl _ w).alloc (Nat.le_refl _) _).alloc (by simp) _).drew⟩)
  by_cases h3 : t = 3
  · subst h3
    by_cases hn : n = 1
    · subst hn
      go_enter Tryz.func76, Tryz.ntmps76
      go_wp2
      go_region_with (first | (go_at_call 79; refine (truth_any' _ _).mono ?_; rintro e w' ⟨rfl, rfl⟩; simp only [Val.box, Val.v, Val.truth]))
      all_goals go_wp2
      all_goals (go_ret; exact ⟨by first | rfl | simp, ((((Below.refl _ w).alloc (Nat.le_refl _) _).alloc (by simp) _).alloc (by simp; omega) _).drew⟩)
    · have hn' : (n == 1) = false := by simp [hn]
      go_enter Tryz.func76, Tryz.ntmps76
      go_wp2
      go_region_with (first | (go_at_call 79; refine (truth_any' _ _).mono ?_; rintro e w' ⟨rfl, rfl⟩; simp only [Val.box, Val.v, Val.truth]))
      all_goals go_wp2
      all_goals (go_ret; exact ⟨by first | rfl | simp [hn], ((((Below.refl _ w).alloc (Nat.le_refl _) _).alloc (by simp) _).alloc (by simp; omega) _).drew⟩)
  have e1 : (t == 1) = false := by simp [h1]
  have e2 : (t == 2) = false := by simp [h2]
  have e3 : (t == 3) = false := by simp [h3]
  go_enter Tryz.func76, Tryz.ntmps76
  go_wp2
  go_ret
  exact ⟨by first | rfl | simp [h1, h2, h3], (Below.refl _ w).alloc (Nat.le_refl _) _⟩
end Go.Proofs.YtbjipcpoiiegkaaGreatDoor
namespace Go.Proofs.YtbjipcpoiiegkaaGreatDoor
open Go.RowKit
attribute [local go_sem high] eq_val eq_val0
set_option maxRecDepth 100000 in
set_option maxHeartbeats 1000000 in
theorem right_rest (n : Int) (b : List UInt8) (_hb : b.length ≤ 9223372036854775807) (hx : n ≠ 0) (w : World) : Calls Tryz.prog 76 #[Val.v ⟨2, n, b⟩] w fun e w' => e = .returned (.bool (Val.right ⟨2, n, b⟩)) ∧ Below w.heap.size w w' := by
  simp only [Val.v, Val.right]
  have hn' : (n == 0) = false := by simp [hx]
  go_enter Tryz.func76, Tryz.ntmps76
  go_wp2
  first
    | go_region_with (first | (go_at_call 47; refine (text_any' _ _).mono ?_; rintro e w' ⟨rfl, rfl⟩; simp only [Val.box, Val.v]))
    | fail
  all_goals go_wp2
  all_goals (go_ret; exact ⟨by first | rfl | simp [hx], (((Below.refl _ w).alloc (Nat.le_refl _) _).alloc (by simp) _).drew⟩)
theorem right_any (x : Val) (hb : x.b.length ≤ 9223372036854775807) (w : World) : Calls Tryz.prog 76 #[x.v] w fun e w' => e = .returned (.bool x.right) ∧ Below w.heap.size w w' := by
  by_cases h : x.t = 2 → x.n = 0
  · exact right_most x hb h w
  · obtain ⟨t, n, b⟩ := x
    obtain ⟨rfl, hn⟩ : t = 2 ∧ n ≠ 0 := by simpa using h
    exact right_rest n b hb hn w

theorem hidV {p : Prop} (h : p) : Hid p := h
/-- A slice's values, as cells. -/
def Vs (w : World) (a : Option Addr) (L : List Val) : Prop := L = [] ∨ ∃ b off, a = some ⟨b, off, none⟩ ∧ ∀ j (h : j < L.length), w.cell? ⟨b, off + j * 3, none⟩ = some (.int .i64 L[j].t) ∧ w.cell? ⟨b, off + j * 3 + 1, none⟩ = some (.int .i64 L[j].n) ∧ w.cell? ⟨b, off + j * 3 + 2, none⟩ = some (.string ⟨L[j].b.toArray⟩)
theorem cell_below {w w' : World} {a : Addr} {v : Value} (h : w.cell? a = some v) (hb : Below w.heap.size w w') : w'.cell? a = some v := (hb.cell (World.block_lt_of_cell? _ _ h)).trans h
theorem Vs.keep {w w' : World} {a : Option Addr} {L : List Val} (h : Vs w a L) (hb : Below w.heap.size w w') : Vs w' a L := by
  rcases h with h | ⟨b, off, e, hc⟩
  · exact .inl h
  · exact .inr ⟨b, off, e, fun j hj => ⟨cell_below (hc j hj).1 hb, cell_below (hc j hj).2.1 hb, cell_below (hc j hj).2.2 hb⟩⟩
/-- Values whose numbers are ints and whose bytes are few. -/
def Fair (L : List Val) : Prop := ∀ x ∈ L, x.b.length ≤ 9223372036854775807

end Go.Proofs.YtbjipcpoiiegkaaGreatDoor
namespace Go.Proofs.YtbjipcpoiiegkaaGreatDoor
open Go.RowKit
attribute [local go_sem high] eq_val eq_val0
set_option maxRecDepth 100000 in
set_option maxHeartbeats 1000000 in
theorem allRight_any (a : Option Addr) (n c : Nat) (L : List Val) (hn : L.length = n) (w : World) (hV : Vs w a L) (hF : Fair L) (hl : n ≤ 140737488351232) : Calls Tryz.prog 60 #[.slice a n c] w fun e w' => e = .returned (.bool (L.all Val.right)) ∧ Below w.heap.size w w' := by
  go_enter Tryz.func60, Tryz.ntmps60
  go_wp2
  go_loopw [7] (fun i wr => ∃ k : Nat, k ≤ n ∧ i = .int .i64 k ∧ (∀ j (h : j < L.length), j < k → L[j].right = true) ∧ Below w.heap.size w wr) (fun i _ => n - (intOf i).toNat)
  case atStart => exact ⟨0, Nat.zero_le _, rfl, by omega, Below.refl _ _⟩
  case round =>
    obtain ⟨k, hk, rfl, hr, hb⟩ := hrel
    by_cases hlt : k < n
    · rcases hV.keep hb with h0 | ⟨b, off, hao, hc⟩
      · subst h0; simp at hn; omega
      · subst hao
        obtain ⟨c0, c1, c2⟩ := hc k (by omega)
        have hx := hF L[k] (by simp)
        have HF : Hid (L[k].right = false → L.all Val.right = false) := hidV fun h => by
          rw [List.all_eq_false]
          exact ⟨L[k], by simp, by simp [h]⟩
        have HT : Hid (L[k].right = true → ∀ j (h : j < L.length), j < k + 1 → L[j].right = true) := hidV fun h j hj hjk => by
          rcases Nat.lt_or_ge j k with h1 | h1
          · exact hr j hj h1
          · obtain rfl : j = k := by omega
            exact h
        generalize L[k] = x at c0 c1 c2 hx HF HT
        have hx' := right_any x hx
        obtain ⟨xt, xn, xb⟩ := x
        simp only [Val.v] at hx'
        clear hc hV hF
        generalize hR : Val.right ⟨xt, xn, xb⟩ = R at hx' HF HT
        cases R with
        | false =>
          go_wp2_with (go_at_call 76; refine (hx' _).mono ?_; rintro e w2 ⟨rfl, hb2⟩)
          go_ret
          exact ⟨by rw [HF.out trivial]; rfl, (hb.alloc hb.size _).trans (hb2.mono (by have := hb.size; simp; omega))⟩
        | true =>
          go_wp2_with (go_at_call 76; refine (hx' _).mono ?_; rintro e w2 ⟨rfl, hb2⟩)
          refine ⟨⟨k + 1, by omega, by go_num, HT.out trivial, (hb.alloc hb.size _).trans (hb2.mono (by have := hb.size; simp; omega))⟩, by simp [intOf]; omega⟩
    · have hE : L.all Val.right = true := by
        rw [List.all_eq_true]
        intro x hx
        obtain ⟨j, hj, rfl⟩ := List.mem_iff_getElem.1 hx
        exact hr j hj (by omega)
      go_wp2
      go_ret
      exact ⟨by rw [hE]; rfl, hb⟩
end Go.Proofs.YtbjipcpoiiegkaaGreatDoor
namespace Go.Proofs.YtbjipcpoiiegkaaGreatDoor
open Go.RowKit Go.Shelf
attribute [local go_sem] Oper.semAt_some

/-- A builder that was written, and what its buffer is. -/
structure Bld (B b : Nat) (v : Value) (bs : List Value) (w : World) : Prop where
  lo : B ≤ b
  at_ : w.heap[b]? = some (.cells #[.pointer (some ⟨b, 0, none⟩), v] 75 (0, 0))
  own : w.ownsRow B 5 1 v bs.length bs
  ne : v.ownBlock ≠ some b
/-- All that lay but blocks b and r lies as it lay. -/
structure But (b : Nat) (r : Option Nat) (w w' : World) : Prop where
  size : w.heap.size ≤ w'.heap.size
  same : ∀ k, k < w.heap.size → k ≠ b → some k ≠ r → w'.heap[k]? = w.heap[k]?

theorem copyCheck_used (B b : Nat) (v : Value) (bs : List Value) (w : World) (h : Bld B b v bs w) :
    Calls Tryz.prog 87 #[.pointer (some ⟨b, 0, none⟩)] w fun e w' => e = .returned (.tuple #[]) ∧ w' = w :=
  Any.Builder_copyCheck_used { Tryz.lays165 with } Tryz.Builder_Extra_165.toX72 b w (by rw [Lib.cell_of_heap h.at_]; rfl)

set_option maxHeartbeats 2000000 in
set_option maxRecDepth 100000 in
theorem writeByte_any (B b : Nat) (v : Value) (bs : List Value) (c : Int) (w : World) (h : Bld B b v bs w) (hlen : bs.length + 1 ≤ 140737488355328) (hBw : B ≤ w.heap.size) :
    Calls Tryz.prog 95 #[.pointer (some ⟨b, 0, none⟩), .int .u8 c] w fun e w' => e = .returned .nilIface ∧ (∃ v', Bld B b v' (bs ++ [.int .u8 c]) w' ∧ (v'.ownBlock = v.ownBlock ∨ ∃ k, v'.ownBlock = some k ∧ w.heap.size ≤ k)) ∧ But b v.ownBlock w w' ∧ Below B w w' := by
  obtain ⟨i0, hi, hz0, hz1, hz2⟩ := info_parts (show (Tryz.prog.info? 5).map (fun i => (i.zero, i.size, i.bytes)) = some (some (.int .u8 0), 1, 1) by kernel_rfl)
  have hlt : b < w.heap.size := (Array.getElem?_eq_some_iff.1 h.at_).1
  have c0 : w.cell? ⟨b, 0, none⟩ = some (.pointer (some ⟨b, 0, none⟩)) := by rw [Lib.cell_of_heap h.at_]; rfl
  have c1 : w.cell? ⟨b, 1, none⟩ = some v := by rw [Lib.cell_of_heap h.at_]; rfl
  go_enter Tryz.func95, Tryz.ntmps95
  go_wp2_with (first | (go_at_call 87; refine (copyCheck_used B b v bs _ h).mono ?_; rintro e w' ⟨rfl, hw⟩; replace hw := hw.symm; subst hw) | (at_builtin; refine wpList_append_own_at _ rfl _ _ 73 rfl B 5 i0 (.int .u8 0) 1 1 Tryz.underlying73 hi hz0 hz1 hz2 rfl (by decide) v _ _ rfl (h.own.alloc _) ⟨w.heap.size, 0, none⟩ 1 1 [.int .u8 c] rfl rfl (cell_one_new _ _ _) (by simp [Value.oneCell']) (by simp only [maxLen]; omega) (by omega) (by simp; omega) ?_; intro v' w2 hown' hgrow _ hat; have hb2 : w2.heap[b]? = some (.cells #[.pointer (some ⟨b, 0, none⟩), v] 75 (0, 0)) := (by rw [hgrow.block b (by simp; omega) (fun e => h.ne e.symm), Lib.alloc_old w _ b hlt]; exact h.at_); have d0 : w2.cell? ⟨b, 0, none⟩ = some (.pointer (some ⟨b, 0, none⟩)) := (by rw [Lib.cell_of_heap hb2]; rfl); have d1 : w2.cell? ⟨b, 1, none⟩ = some v := (by rw [Lib.cell_of_heap hb2]; rfl); have f1 : w2.frozen? ⟨b, 1, none⟩ = false := Lib.frozen_of_heap hb2 1; obtain ⟨g, cap, rfl⟩ := ownsRow_succ hown'))
  go_ret
  have hne := Lib.ownBlock_ne hown' hb2 (by decide)
  refine ⟨rfl, ⟨_, ⟨h.lo, ?_, ?_, hne⟩, ?_⟩, ⟨?_, ?_⟩, ?_⟩
  · simp [World.setCell, Array.getElem?_modify, hb2]
  · have := hown'.kept (row := some b) (w' := w2.setCell ⟨b, 1, none⟩ (.slice (some ⟨g, 0, none⟩) (bs.length + 1) cap)) ⟨rfl, rfl, rfl, by simp [World.setCell], fun k _ hk => Below.heap_setCell _ _ _ _ (fun e => hk (by simp [e]))⟩ (Or.inr hne)
    simpa using this
  · rcases hat with e | e
    · exact .inl e
    · exact .inr ⟨_, e, by simp⟩
  · have := hgrow.size
    simp [World.setCell] at this ⊢
    omega
  · intro k hk k1 k2
    exact (Below.heap_setCell _ _ _ k k1).trans ((hgrow.block k (by simp; omega) k2).trans (Below.heap_alloc _ _ k hk))
  · exact ((((Below.refl B w).alloc hBw _).grown hgrow (by simp; omega) (fun k hk => (h.own.lt k hk).1)).setCell (p := ⟨b, 1, none⟩) h.lo _)
theorem writeString_any (B b : Nat) (bs : List Value) (s : ByteArray) (w : World) (h : Lib.IsBuilder 75 5 B b bs w) (hlen : bs.length + s.size ≤ 140737488355328) (hBw : B ≤ w.heap.size) :
    Calls Tryz.prog 68 #[.pointer (some ⟨b, 0, none⟩), .string s] w fun e w' => e = .returned (.tuple #[.int .i64 s.size, .nilIface]) ∧ (Lib.BuilderAt 75 5 B b (.pointer (some ⟨b, 0, none⟩)) (bs ++ Lib.strCells s) w' ∧ Below B w w') :=
  Any.Builder_WriteString { Tryz.lays156 with } Tryz.Builder_Extra_156 B b bs s w h hlen hBw

/-- The sixteen digits. -/
def hexDigits : List UInt8 := [48, 49, 50, 51, 52, 53, 54, 55, 56, 57, 97, 98, 99, 100, 101, 102]
/-- A byte's two digits. -/
def hexOf (c : UInt8) : List UInt8 := [hexDigits.getD (c.toNat / 16) 0, hexDigits.getD (c.toNat % 16) 0]
def hexWord (s : List UInt8) : List UInt8 := [120, 39] ++ s.flatMap hexOf ++ [39]

theorem row_keep {w w' : World} {base n size : Nat} {e : TypeId} {v : Value} {xs : List Value} (h : w.ownsRow base e size v n xs) (hb : Below w.heap.size w w') : w'.ownsRow base e size v n xs := by
  refine ⟨h.1, ?_⟩
  rcases h.2 with h2 | ⟨g, cap, cur, rfl, hg, hh, r⟩
  · exact .inl h2
  · exact .inr ⟨g, cap, cur, rfl, hg, by rw [hb.block g (Array.getElem?_eq_some_iff.1 hh).1]; exact hh, r⟩
theorem hex_length (s : List UInt8) : (s.flatMap hexOf).length = 2 * s.length := by
  induction s with
  | nil => rfl
  | cons a s ih => simp [hexOf] at ih ⊢; omega
theorem own_ne {v v' : Value} {r n : Nat} (h : v.ownBlock ≠ some r) (hat : v'.ownBlock = v.ownBlock ∨ ∃ k, v'.ownBlock = some k ∧ n ≤ k) (hr : r < n) : v'.ownBlock ≠ some r := by
  rcases hat with e | ⟨k, e, hk⟩
  · rw [e]; exact h
  · rw [e]; intro e2; cases e2; omega
theorem digit_at (i : Nat) (h : i < 16) : (⟨#[48, 49, 50, 51, 52, 53, 54, 55, 56, 57, 97, 98, 99, 100, 101, 102]⟩ : ByteArray)[i]'h = hexDigits.getD i 0 := by
  have : ∀ j : Fin 16, (⟨#[48, 49, 50, 51, 52, 53, 54, 55, 56, 57, 97, 98, 99, 100, 101, 102]⟩ : ByteArray)[j.1]'j.2 = hexDigits.getD j.1 0 := by decide
  exact this ⟨i, h⟩

set_option maxHeartbeats 2000000 in
set_option maxRecDepth 100000 in
theorem bytesWord_any (s : List UInt8) (w : World) (hs : s.length ≤ 1048576) : Calls Tryz.prog 78 #[.string ⟨s.toArray⟩] w fun e w' => e = .returned (.string ⟨(hexWord s).toArray⟩) ∧ Below w.heap.size w w' := by
  go_enter Tryz.func78, Tryz.ntmps78
  have hnew : (w.alloc (.cells #[.pointer none, .slice none 0 0] 75)).heap[w.heap.size]? = some (.cells #[.pointer none, .slice none 0 0] 75 (0, 0)) := World.alloc_heap_new w _
  have hbel : Below w.heap.size w (w.alloc (.cells #[.pointer none, .slice none 0 0] 75)) := (Below.refl _ w).alloc (Nat.le_refl _) _
  go_wp2_with (first | (go_at_call 75; rw [show (2 + 2 * (s.length : Int) + 1) = ((2 * s.length + 3 : Nat) : Int) from (by omega)]; refine (Tryz.Builder_Grow_fresh w.heap.size w.heap.size (2 * s.length + 3) _ (Nat.le_refl _) hnew (by simp) (by omega)).mono ?_; rintro e w1 ⟨rfl, hB1, hb1⟩; replace hb1 := hbel.trans hb1) | (go_at_call 68; refine (writeString_any w.heap.size w.heap.size [] _ _ (.inr hB1) (by simp; decide) hb1.size).mono ?_; rintro e w2 ⟨rfl, hB2, hb2⟩; replace hb2 := hb1.trans hb2))
  rw [Lib.run_convert_string_bytes w2 9 73 5 ⟨s.toArray⟩ Tryz.underlying9 Tryz.underlying73 Tryz.underlying5]
  have hcell : ∀ j (h : j < s.length), (Lib.bytesWorld w2 5 ⟨s.toArray⟩).cell? ⟨w2.heap.size, j, none⟩ = some (.int .u8 (s[j].toNat : Int)) := by
    intro j h
    rw [Lib.bytesWorld_cell w2 _ _ j (by simpa [ByteArray.size] using h)]
    simp [List.getD_eq_getElem?_getD, h]
  have hsz3 := Lib.bytesWorld_size w2 5 ⟨s.toArray⟩
  have hold3 := Lib.bytesWorld_at_old w2 5 ⟨s.toArray⟩
  obtain ⟨v2, hB3, hv2, hb3, hbr⟩ : ∃ v2, Bld w.heap.size w.heap.size v2 (Lib.byteCells [120, 39]) (Lib.bytesWorld w2 5 ⟨s.toArray⟩) ∧ v2.ownBlock ≠ some w2.heap.size ∧ Below w.heap.size w (Lib.bytesWorld w2 5 ⟨s.toArray⟩) ∧ w.heap.size < w2.heap.size := by
    obtain ⟨lo, v, at_, own, ne⟩ := hB2
    have hlt := (Array.getElem?_eq_some_iff.1 at_).1
    have hg := Lib.bytesWorld_below w2 5 ⟨s.toArray⟩
    refine ⟨v, ⟨lo, (hold3 _ hlt).trans at_, ?_, ne⟩, fun e => ?_, hb2.trans (hg.mono hb2.size), hlt⟩
    · refine row_keep (n := (Lib.byteCells [120, 39]).length) ?_ hg
      simpa [Lib.strCells, Lib.byteCells] using own
    · have := (own.lt _ e).2
      omega
  generalize Lib.bytesWorld w2 5 ⟨s.toArray⟩ = w3 at *
  generalize grownCap w2 _ 0 _ = cap3
  simp only [Result.andThen]
  rw [Oper.upon_value]
  generalize w2.heap.size = r at *
  clear hB1 hb1 hB2 hb2 hold3 hnew hbel
  go_wp2
  go_loopw [16] (fun i wr => ∃ (k : Nat) (v : Value), k ≤ s.length ∧ i = .int .i64 k ∧ Bld w.heap.size w.heap.size v (Lib.byteCells ([120, 39] ++ (s.take k).flatMap hexOf)) wr ∧ v.ownBlock ≠ some r ∧ wr.heap[r]? = w3.heap[r]? ∧ Below w.heap.size w wr) (fun i _ => s.length - (intOf i).toNat)
  case atStart => exact ⟨0, v2, Nat.zero_le _, rfl, by simpa using hB3, hv2, rfl, hb3⟩
  case round =>
    obtain ⟨k, v, hk, rfl, hB, hv, hr, hb⟩ := hrel
    by_cases hlt : k < s.length
    · have hck : wr.cell? ⟨r, k, none⟩ = some (.int .u8 (s[k].toNat : Int)) := by
        rw [← hcell k hlt]
        simp [World.cell?, hr]
      generalize hc : s[k] = c at hck
      have hrl : r < wr.heap.size := (Array.getElem?_eq_some_iff.1 (hr.trans (Array.getElem?_eq_getElem (by omega)))).1
      have hbl : (Lib.byteCells ([120, 39] ++ (s.take k).flatMap hexOf)).length + 2 ≤ 140737488355328 := by
        have := hex_length (s.take k)
        simp [Lib.byteCells] at this ⊢
        omega
      have HB : Hid (Lib.byteCells ([120, 39] ++ (s.take (k + 1)).flatMap hexOf) = Lib.byteCells ([120, 39] ++ (s.take k).flatMap hexOf) ++ [.int .u8 ((hexDigits.getD (c.toNat / 16) 0).toNat : Int)] ++ [.int .u8 ((hexDigits.getD (c.toNat % 16) 0).toNat : Int)]) := hid (by
        rw [List.take_succ_eq_append_getElem hlt, hc]
        simp [Lib.byteCells, hexOf])
      generalize Lib.byteCells ([120, 39] ++ (s.take k).flatMap hexOf) = bs at *
      go_wp2_with (go_at_call 95; refine (writeByte_any _ _ _ _ _ _ hB (by first | omega | (simp only [List.length_append, List.length_cons, List.length_nil]; omega)) hb.size).mono ?_; rintro e w' ⟨rfl, ⟨v, hB, hat⟩, hbut, hbel⟩; replace hb := hb.trans hbel; replace hr := (hbut.same r hrl (by omega) hv.symm).trans hr; replace hv := own_ne hv hat hrl; replace hrl := Nat.lt_of_lt_of_le hrl hbut.size)
      case roundEnd =>
        simp only [digit_at] at hB
        rw [← HB.out] at hB
        exact ⟨⟨k + 1, v, by omega, by go_num, hB, hv, hr, hb⟩, by simp [intOf]; omega⟩
      case isFalse => exfalso; rename_i hno; exact hno (by have := c.toNat_lt; omega)
    · have hke : k = s.length := by omega
      subst hke
      rw [List.take_length] at hB
      have hl : (Lib.byteCells ([120, 39] ++ s.flatMap hexOf)).length ≤ 2 * s.length + 2 := by
        have := hex_length s
        simp [Lib.byteCells] at this ⊢
        omega
      have HS : Hid (Lib.byteCells ([120, 39] ++ s.flatMap hexOf) ++ Lib.strCells ⟨#[39]⟩ = Lib.byteCells (hexWord s)) := hid (by simp [Lib.byteCells, Lib.strCells, hexWord])
      go_wp2_with (first | (go_at_call 68; refine (writeString_any _ _ _ _ _ (.inr ⟨hB.lo, _, hB.at_, hB.own, hB.ne⟩) (Nat.le_trans (Nat.add_le_add_right hl 1) (by omega)) hb.size).mono ?_; rintro e w4 ⟨rfl, hB4, hb4⟩; replace hb4 := hb.trans hb4; rw [HS.out] at hB4) | (go_at_call 48; refine (Tryz.Builder_String_any _ _ _ _ (.inr hB4) hb4.size).mono ?_; rintro e w5 ⟨rfl, hb5⟩; replace hb5 := hb4.trans hb5))
      go_ret
      exact ⟨rfl, hb5⟩
end Go.Proofs.YtbjipcpoiiegkaaGreatDoor
namespace Go.Proofs.YtbjipcpoiiegkaaGreatDoor
open Go.RowKit Go.Shelf
attribute [local go_sem high] eq_val eq_val0
/-- The library's table of powers lies as it was laid. -/
def Pow (w : World) : Prop := Lib.TabIs Tryz.prog w "internal/strconv.uint64pow10" .u64 Lib.pow10Tab
theorem Pow.keep {w w' : World} (h : Pow w) (hb : Below w.heap.size w w') : Pow w' := by
  have hg : Tryz.prog.globalNamed "internal/strconv.uint64pow10" = some 4 := by kernel_rfl
  unfold Pow Lib.TabIs World.var? at h ⊢
  rw [hg] at h ⊢
  simp only [Option.bind_some] at h ⊢
  rw [hb.block _ (by
    rcases Nat.lt_or_ge 4 w.heap.size with h' | h'
    · exact h'
    · rw [Array.getElem?_eq_none h'] at h; cases h)]
  exact h
/-- A value's text, of one that may be. -/
def wordOf (x : Val) : List UInt8 := if x.t = 1 then Lib.itoa x.n else if x.t = 2 then hexWord x.b else if x.t == 3 && (x.n == 1 && decide (x.b = [])) then [116, 114, 117, 101] else [102, 97, 108, 115, 101]

set_option maxRecDepth 100000 in
set_option maxHeartbeats 1000000 in
theorem word_any (x : Val) (h0 : -9223372036854775808 ≤ x.n) (h1 : x.n ≤ 9223372036854775807) (hb : x.b.length ≤ 1048576) (w : World) (ht : Pow w) : Calls Tryz.prog 61 #[x.v] w fun e w' => e = .returned (.string ⟨(wordOf x).toArray⟩) ∧ Below w.heap.size w w' := by
  obtain ⟨t, n, b⟩ := x
  simp only [Val.v, wordOf] at h0 h1 hb ⊢
  by_cases h1 : t = 1
  · subst h1
    go_enter Tryz.func61, Tryz.ntmps61
    go_wp2_with (go_at_call 77; refine (Tryz.strconv_Itoa n h0 (by assumption) _ (ht.keep ((Below.refl _ w).alloc (Nat.le_refl _) _))).mono ?_; rintro e w' ⟨rfl, k, os, rfl⟩)
    go_ret
    exact ⟨rfl, ((Below.refl _ w).alloc (Nat.le_refl _) _).trans (Lib.below_grow _ _ (by simp) _ _)⟩
  by_cases h2 : t = 2
  · subst h2
    go_enter Tryz.func61, Tryz.ntmps61
    go_wp2_with (go_at_call 78; refine (bytesWord_any b _ hb).mono ?_; rintro e w' ⟨rfl, hb2⟩)
    go_ret
    exact ⟨rfl, ((Below.refl _ w).alloc (Nat.le_refl _) _).trans (hb2.mono (by simp))⟩
  have e1 : (t == 1) = false := by simp [h1]
  have e2 : (t == 2) = false := by simp [h2]
  simp only [if_neg h1, if_neg h2]
  have hV : ∀ W : World, Calls Tryz.prog 79 #[.bool true] W fun e w' => e = .returned (.agg #[.int .i64 3, .int .i64 1, .string ⟨#[]⟩]) ∧ w' = (W.alloc (Val.box (Val.truth true))).alloc (Val.box (Val.truth true)) := truth_any' true
  generalize hQ : (t == 3 && (n == 1 && decide (b = []))) = q
  cases q
  all_goals
    go_enter Tryz.func61, Tryz.ntmps61
    go_wp2
    first
      | go_region_with (first | (go_at_call 79; refine (hV _).mono ?_; rintro e w' ⟨rfl, rfl⟩; simp only [Val.box, Val.truth]))
      | fail
    all_goals go_wp2
    all_goals (go_ret; exact ⟨rfl, ((((Below.refl _ w).alloc (Nat.le_refl _) _).alloc (by simp) _).alloc (by simp; omega) _).drew⟩)
end Go.Proofs.YtbjipcpoiiegkaaGreatDoor
namespace Go.Proofs.YtbjipcpoiiegkaaGreatDoor
open Go.RowKit Go.Shelf
/-- The library's variables lie as they were laid. -/
structure Laid (w : World) : Prop where
  pow : Pow w
  syn : ∃ tp p, w.var? Tryz.prog "strconv.ErrSyntax" = some #[.iface tp p]
  ran : ∃ tp p, w.var? Tryz.prog "strconv.ErrRange" = some #[.iface tp p]
theorem var_keep {w w' : World} {n : String} {g : Nat} {xs : Array Value} (hg : Tryz.prog.globalNamed n = some g) (h : w.var? Tryz.prog n = some xs) (hb : Below w.heap.size w w') : w'.var? Tryz.prog n = some xs := by
  unfold World.var? at h ⊢
  rw [hg] at h ⊢
  simp only [Option.bind_some] at h ⊢
  rw [hb.block _ (by
    rcases Nat.lt_or_ge g w.heap.size with h' | h'
    · exact h'
    · rw [Array.getElem?_eq_none h'] at h; cases h)]
  exact h
theorem Laid.keep {w w' : World} (h : Laid w) (hb : Below w.heap.size w w') : Laid w' := by
  obtain ⟨h0, ⟨t1, p1, h1⟩, ⟨t2, p2, h2⟩⟩ := h
  exact ⟨h0.keep hb, ⟨t1, p1, var_keep (show Tryz.prog.globalNamed "strconv.ErrSyntax" = some 5 by kernel_rfl) h1 hb⟩, ⟨t2, p2, var_keep (show Tryz.prog.globalNamed "strconv.ErrRange" = some 6 by kernel_rfl) h2 hb⟩⟩
end Go.Proofs.YtbjipcpoiiegkaaGreatDoor
