/- What the document writes: lists of types. A row of bytes that grows while other rows are made. -/
import Derived.Test.YtkbmmaacmofijaaCPp
import Derived.Test.YtkbmmaacmofijaaRW
import Derived.Test.YtkbmmaacmofijaaORn
namespace Go.Proofs.Ytkbmmaacmofijaa
open Go.RowKit
theorem own_lit1 (w : World) (n : Nat) (h : n ≤ 255) (base : Nat) (hb : base ≤ w.heap.size) : OwnB (w.alloc (.cells #[.int .u8 (n : Int)] 5)) base (.slice (some ⟨w.heap.size, 0, none⟩) 1 1) [UInt8.ofNat n] := by
  have e : [UInt8.ofNat n].map bv = [.int .u8 (n : Int)] := by
    simp only [List.map_cons, List.map_nil, bv, UInt8.toNat_ofNat']
    rw [Nat.mod_eq_of_lt (by omega)]
  unfold OwnB
  rw [e]
  exact World.ownsRow_lit w #[.int .u8 (n : Int)] 1 hb (by decide) rfl
theorem byte_val (n : Nat) (h : n ≤ 255) : (Value.int .u8 (n : Int)) = bv (UInt8.ofNat n) := by
  unfold bv
  rw [UInt8.toNat_ofNat', Nat.mod_eq_of_lt (by omega)]
/-- How bytes of one's own end. -/
def RowB (bs : List UInt8) (w : World) (e : Ending) (w' : World) : Prop := (∃ v, e = .returned v ∧ OwnB w' w.heap.size v bs) ∧ Below w.heap.size w w'
set_option maxRecDepth 100000 in
set_option maxHeartbeats 1000000 in
theorem rlist_any (a : Option Addr) (n c : Nat) (ns : List Int) (hn : ns.length = n) (w : World) (hN : NsAt w.cell? a ns) (hl : n ≤ 255) (hall : ∀ x ∈ ns, 0 ≤ x ∧ x ≤ 255) : Calls Try.prog 68 #[.slice a n c] w (RowB ([UInt8.ofNat n] ++ byts ns) w) := by
  have hO0 := own_lit1 w n hl w.heap.size (Nat.le_refl _)
  go_enter Try.func68, Try.ntmps68
  go_wp2
  go_loopw [3, 4] (fun v i wr => ∃ (k : Nat) (v' : Value), k ≤ n ∧ i = .int .i64 k ∧ v = v' ∧ OwnB wr w.heap.size v' ([UInt8.ofNat n] ++ byts (ns.take k)) ∧ Below w.heap.size w wr) (fun _ i _ => n - (intOf i).toNat)
  case atStart => exact ⟨0, _, Nat.zero_le _, rfl, rfl, by simpa [byts] using hO0, (Below.refl _ w).alloc (Nat.le_refl _) _⟩
  case round =>
    obtain ⟨k, v', hk, rfl, rfl, hO, hb⟩ := hrel
    by_cases hlt : k < n
    · rcases hN with h0 | ⟨b, off, hao, hc⟩
      · subst h0; simp at hn; omega
      subst hao
      have q0 := below_keep hb _ _ (hc k (by omega))
      have HS : Hid ([UInt8.ofNat n] ++ byts (ns.take (k + 1)) = ([UInt8.ofNat n] ++ byts (ns.take k)) ++ [UInt8.ofNat (ns[k]'(by omega)).toNat]) := hid (by rw [byts_snoc _ _ (by omega), List.append_assoc])
      have hx := hall (ns[k]'(by omega)) (by simp)
      generalize ns[k]'(by omega) = x at q0 HS hx
      obtain ⟨y, rfl⟩ := Int.eq_ofNat_of_zero_le hx.1
      have hy : y ≤ 255 := by omega
      rw [Int.toNat_natCast] at HS
      have hlen : ([UInt8.ofNat n] ++ byts (ns.take k)).length ≤ 300 := by simp only [List.length_append, List.length_singleton, byts_length, List.length_take]; omega
      generalize [UInt8.ofNat n] ++ byts (ns.take k) = ys at hO HS hlen
      have HB := hid (byte_val y hy)
      have hw : (y : Int) % 256 = (y : Int) := by omega
      go_wp2_with (at_builtin; go_loud (refine wpList_app _ rfl _ _ _ _ rfl elem_u8 w.heap.size _ _ rfl (Own.alloc hO _) _ rfl [bv (UInt8.ofNat y)] (src_one _ Try.underlying36 _ _ _ (by first | exact HB.out | (rw [hw]; exact HB.out)) rfl _) (by simp only [List.length_map, List.length_singleton]; unfold maxLen; omega) (by simp only [List.length_map, List.length_singleton]; omega) (by have := hb.size; simp; omega) ?_))
      intro v1 w1 ho1 hs1
      have hb1 : Below w.heap.size w w1 := (hb.alloc hb.size _).trans (hs1.below (Nat.le_trans hb.size (by simp)) (fun k h => (hO.lt k h).1))
      replace ho1 : OwnB w1 w.heap.size v1 (ys ++ [UInt8.ofNat y]) := by simpa [OwnB] using ho1
      go_wp2
      exact ⟨⟨k + 1, v1, by omega, by go_num, rfl, by rw [HS.out]; exact ho1, hb1⟩, by simp [intOf]; omega⟩
    · have htk : ns.take k = ns := List.take_of_length_le (by omega)
      rw [htk] at hO
      go_wp2
      go_ret
      exact ⟨⟨_, rfl, hO⟩, hb⟩
end Go.Proofs.Ytkbmmaacmofijaa
namespace Go.Proofs.Ytkbmmaacmofijaa
open Go.RowKit
/-- The row v holds xs; below B all is as it was. -/
structure Run (B : Nat) (w0 W : World) (v : Value) (xs : List UInt8) : Prop where
  row : OwnB W B v xs
  below : Below B w0 W
  size : B ≤ W.heap.size
theorem Run.call {B : Nat} {w0 W W' : World} {v : Value} {xs : List UInt8} (h : Run B w0 W v xs) (hb : Below W.heap.size W W') : Run B w0 W' v xs := ⟨Own.below h.row hb, h.below.trans (hb.mono h.size), Nat.le_trans h.size hb.size⟩
theorem Run.alloc {B : Nat} {w0 W : World} {v : Value} {xs : List UInt8} (h : Run B w0 W v xs) (o : Obj) : Run B w0 (W.alloc o) v xs := h.call ((Below.refl _ W).alloc (Nat.le_refl _) o)
theorem Run.app {B : Nat} {w0 W W' : World} {v v' : Value} {xs ys : List UInt8} (h : Run B w0 W v xs) (ho : Own W' B 5 v' (xs.map bv ++ ys.map bv)) (hs : Step W v W' v') : Run B w0 W' v' (xs ++ ys) := ⟨by unfold OwnB; rw [List.map_append]; exact ho, h.below.trans (hs.below h.size (fun k e => (h.row.lt k e).1)), Nat.le_trans h.size hs.size⟩
/-- A block that is not v's row. -/
structure Aside (W : World) (v : Value) (k : Nat) (o : Obj) : Prop where
  there : W.heap[k]? = some o
  ne : v.ownBlock ≠ some k
theorem Aside.call {W W' : World} {v : Value} {k : Nat} {o : Obj} (h : Aside W v k o) (hb : Below W.heap.size W W') : Aside W' v k o := ⟨(hb.block k (lt_of_block h.there)).trans h.there, h.ne⟩
theorem Aside.app {W W' : World} {v v' : Value} {k : Nat} {o : Obj} (h : Aside W v k o) (hs : Step W v W' v') : Aside W' v' k o := by
  have hlt := lt_of_block h.there
  refine ⟨(hs.1.block k hlt (fun e => h.ne e.symm)).trans h.there, ?_⟩
  rcases hs.2 with e | ⟨g, e, hg⟩
  · rw [e]; exact h.ne
  · rw [e]; intro e2; cases e2; omega
theorem Aside.alloc {W : World} {v : Value} {k : Nat} {o : Obj} (h : Aside W v k o) (o' : Obj) : Aside (W.alloc o') v k o := h.call ((Below.refl _ W).alloc (Nat.le_refl _) o')
theorem Aside.new {B : Nat} {w0 W : World} {v : Value} {xs : List UInt8} (h : Run B w0 W v xs) (cs : Array Value) (t : TypeId) : Aside (W.alloc (.cells cs t)) v W.heap.size (.cells cs t (0, 0)) := ⟨heap_alloc_new W _, fun e => by have := (h.row.lt _ e).2; omega⟩
/-- Bytes that lie beside v's row. -/
def Side (W : World) (v : Value) (ao : Option Addr) (bs : List UInt8) : Prop := bs = [] ∨ ∃ b off, ao = some ⟨b, off, none⟩ ∧ (∀ j (h : j < bs.length), W.cell? ⟨b, off + j, none⟩ = some (.int .u8 (bs[j].toNat : Int))) ∧ v.ownBlock ≠ some b ∧ b < W.heap.size
theorem Side.bs {W : World} {v : Value} {ao : Option Addr} {bs : List UInt8} (h : Side W v ao bs) : Bs W ao bs := by
  rcases h with h | ⟨b, off, e, hc, _⟩
  · exact .inl h
  · exact .inr ⟨b, off, e, hc⟩
theorem Side.call {W W' : World} {v : Value} {ao : Option Addr} {bs : List UInt8} (h : Side W v ao bs) (hb : Below W.heap.size W W') : Side W' v ao bs := by
  rcases h with h | ⟨b, off, e, hc, hn, hl⟩
  · exact .inl h
  · exact .inr ⟨b, off, e, fun j hj => below_keep hb _ _ (hc j hj), hn, Nat.lt_of_lt_of_le hl hb.size⟩
theorem Side.app {W W' : World} {v v' : Value} {ao : Option Addr} {bs : List UInt8} (h : Side W v ao bs) (hs : Step W v W' v') : Side W' v' ao bs := by
  rcases h with h | ⟨b, off, e, hc, hn, hl⟩
  · exact .inl h
  · refine .inr ⟨b, off, e, fun j hj => (Chg.of_grown hs.1).cell (hc j hj) hn, ?_, Nat.lt_of_lt_of_le hl hs.size⟩
    rcases hs.2 with e2 | ⟨g, e2, hg⟩
    · rw [e2]; exact hn
    · rw [e2]; intro e3; cases e3; omega
theorem Side.new {B : Nat} {w0 W W' : World} {v r : Value} {xs bs : List UInt8} (h : Run B w0 W v xs) (hO : OwnB W' W.heap.size r bs) : ∃ ao cap, r = .slice ao bs.length cap ∧ Side W' v ao bs := by
  obtain ⟨ao, cap, rfl, _, _, hB, ho, _⟩ := Own.bs hO
  refine ⟨ao, cap, rfl, ?_⟩
  rcases hB with h0 | ⟨b, off, rfl, hc⟩
  · exact .inl h0
  · have hlt := hO.lt b (by rw [ho]; rfl)
    exact .inr ⟨b, off, rfl, hc, fun e => by have := (h.row.lt _ e).2; omega, hlt.2⟩
theorem Side.src {W : World} {v : Value} {ao : Option Addr} {bs : List UInt8} (h : Side W v ao bs) (c : Nat) : Src Try.prog 1 36 (.slice ao bs.length c) (bs.map bv).length (bs.map bv) W := src_bs _ Try.underlying36 h.bs c
end Go.Proofs.Ytkbmmaacmofijaa
