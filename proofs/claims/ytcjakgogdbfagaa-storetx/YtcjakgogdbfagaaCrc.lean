/- Plain facts: the sum bit by bit is the sum by the table of sixteen. Plain facts: append onto a slice that begins within an owned row. What the document's own functions of layer 1 come to: Number, Sum and Frame; and the law's helpers Lent and Stays. -/
import Derived.Test.YtcjakgogdbfagaaWB
import Derived.Test.YtcjakgogdbfagaaAN
import Derived.Test.YtcjakgogdbfagaaWH
namespace Go.Proofs.Ytcjakgogdbfagaa
open Go.RowKit

/-- One bit. -/
def s1 (c : Nat) : Nat := if c % 2 = 1 then c / 2 ^^^ 3988292384 else c / 2
theorem xor_half (a b : Nat) : (a ^^^ b) / 2 = a / 2 ^^^ b / 2 := by
  have := @Nat.xor_div_two_pow a b 1
  simpa using this
theorem xor_par (a b : Nat) : (a ^^^ b) % 2 = (a % 2 + b % 2) % 2 := by
  have := @Nat.xor_mod_two_pow a b 1
  simp only [Nat.pow_one] at this
  rw [this]
  rcases Nat.mod_two_eq_zero_or_one a with h | h <;> rcases Nat.mod_two_eq_zero_or_one b with k | k <;> rw [h, k] <;> rfl
theorem s1_xor (a b : Nat) : s1 (a ^^^ b) = s1 a ^^^ s1 b := by
  unfold s1
  rw [xor_half, xor_par]
  rcases Nat.mod_two_eq_zero_or_one a with h | h <;> rcases Nat.mod_two_eq_zero_or_one b with k | k <;> rw [h, k] <;> simp only [Nat.add_zero, Nat.zero_add, Nat.zero_mod, Nat.reduceAdd, Nat.reduceMod, if_true, if_false, Nat.zero_ne_one]
  · rw [Nat.xor_assoc]
  · rw [Nat.xor_assoc, Nat.xor_assoc, Nat.xor_comm 3988292384 (b / 2)]
  · rw [Nat.xor_assoc, Nat.xor_comm 3988292384, Nat.xor_assoc, Nat.xor_self, Nat.xor_zero]
theorem s1_twice (m : Nat) : s1 (m * 2) = m := by
  unfold s1
  rw [if_neg (by omega)]
  omega
def s4 (c : Nat) : Nat := s1 (s1 (s1 (s1 c)))
theorem s4_xor (a b : Nat) : s4 (a ^^^ b) = s4 a ^^^ s4 b := by unfold s4; simp only [s1_xor]
theorem s4_16 (m : Nat) : s4 (m * 16) = m := by
  unfold s4
  rw [show m * 16 = m * 2 * 2 * 2 * 2 by omega]
  simp only [s1_twice]
theorem tab_s4 (l : Nat) (h : l < 16) : tab l = s4 l := by
  have : ∀ k : Fin 16, tab k.val = s4 k.val := by decide +kernel
  exact this ⟨l, h⟩
theorem join16 (c : Nat) : c = (c / 16) * 16 ^^^ c % 16 := by
  have h : (c / 16) * 16 ||| c % 16 = (c / 16) * 16 + c % 16 := nat_join4 _ _ (by omega) (by omega)
  have k : (c / 16) * 16 ^^^ c % 16 = (c / 16) * 16 ||| c % 16 := by
    apply Nat.eq_of_testBit_eq
    intro i
    rw [Nat.testBit_xor, Nat.testBit_or]
    by_cases hi : i < 4
    · have : ((c / 16) * 16).testBit i = false := by
        rw [show (c / 16) * 16 = (c / 16) <<< 4 by rw [Nat.shiftLeft_eq], Nat.testBit_shiftLeft]
        simp; omega
      rw [this]; simp
    · have : (c % 16).testBit i = false := Nat.testBit_lt_two_pow (Nat.lt_of_lt_of_le (Nat.mod_lt c (by decide)) (by
        have : (2 : Nat) ^ 4 ≤ 2 ^ i := Nat.pow_le_pow_right (by decide) (by omega)
        simpa using this))
      rw [this]; simp
  rw [k, h]; omega
theorem crcHalf_s4 (c : Nat) : crcHalf c = s4 c := by
  conv => rhs; rw [join16 c]
  rw [s4_xor, s4_16, ← tab_s4 _ (Nat.mod_lt c (by decide))]
  rfl
/-- One bit of the register with one bit of a byte. -/
def bitStep (c b : Nat) : Nat := s1 (c ^^^ b)
/-- The first k bits of a byte. -/
def bitsTo (c x : Nat) : Nat → Nat
  | 0 => c
  | k + 1 => bitStep (bitsTo c x k) (x / 2 ^ k % 2)
theorem s1_push (A y : Nat) : s1 A ^^^ y = s1 (A ^^^ y * 2) := by rw [s1_xor, s1_twice]
theorem byte_join (x : Nat) (h : x < 256) : x / 2 ^ 0 % 2 ^^^ (x / 2 ^ 1 % 2 * 2 ^^^ (x / 2 ^ 2 % 2 * 2 * 2 ^^^ (x / 2 ^ 3 % 2 * 2 * 2 * 2 ^^^ (x / 2 ^ 4 % 2 * 2 * 2 * 2 * 2 ^^^ (x / 2 ^ 5 % 2 * 2 * 2 * 2 * 2 * 2 ^^^ (x / 2 ^ 6 % 2 * 2 * 2 * 2 * 2 * 2 * 2 ^^^ x / 2 ^ 7 % 2 * 2 * 2 * 2 * 2 * 2 * 2 * 2)))))) = x := by
  have : ∀ k : Fin 256, k.val / 2 ^ 0 % 2 ^^^ (k.val / 2 ^ 1 % 2 * 2 ^^^ (k.val / 2 ^ 2 % 2 * 2 * 2 ^^^ (k.val / 2 ^ 3 % 2 * 2 * 2 * 2 ^^^ (k.val / 2 ^ 4 % 2 * 2 * 2 * 2 * 2 ^^^ (k.val / 2 ^ 5 % 2 * 2 * 2 * 2 * 2 * 2 ^^^ (k.val / 2 ^ 6 % 2 * 2 * 2 * 2 * 2 * 2 * 2 ^^^ k.val / 2 ^ 7 % 2 * 2 * 2 * 2 * 2 * 2 * 2 * 2)))))) = k.val := by decide +kernel
  exact this ⟨x, h⟩
theorem bits_s8 (c x : Nat) (h : x < 256) : bitsTo c x 8 = s4 (s4 (c ^^^ x)) := by
  have e := byte_join x h
  unfold s4
  simp only [bitsTo, bitStep, s1_push, Nat.xor_assoc]
  rw [e]
theorem crcByte_bits (c : Nat) (x : UInt8) : crcByte c x = bitsTo c x.toNat 8 := by
  rw [bits_s8 _ _ x.toNat_lt]
  unfold crcByte
  rw [crcHalf_s4, crcHalf_s4]
end Go.Proofs.Ytcjakgogdbfagaa
namespace Go.Proofs.Ytcjakgogdbfagaa
open Go.RowKit

/-- The slice v lies in a row of the call's own, from some place on: its cells are xs. -/
def OwnO (w : World) (base : Nat) (e : TypeId) (v : Value) (xs : List Value) : Prop :=
  ∃ g off cap cur, v = .slice (some ⟨g, off, none⟩) xs.length cap ∧ base ≤ g ∧ w.heap[g]? = some (.cells cur e (0, 0)) ∧ xs.length ≤ cap ∧ cap ≤ maxLen ∧ off + cap ≤ cur.size ∧ (cur.toList.drop off).take xs.length = xs
theorem OwnO.alloc {w : World} {base : Nat} {e : TypeId} {v : Value} {xs : List Value} (h : OwnO w base e v xs) (o : Obj) : OwnO (w.alloc o) base e v xs := by
  obtain ⟨g, off, cap, cur, hv, hb, hg, r⟩ := h
  exact ⟨g, off, cap, cur, hv, hb, by rw [Below.heap_alloc _ _ _ (lt_of_block hg)]; exact hg, r⟩
theorem OwnO.lt {w : World} {base : Nat} {e : TypeId} {v : Value} {xs : List Value} (h : OwnO w base e v xs) : ∀ k, v.ownBlock = some k → base ≤ k ∧ k < w.heap.size := by
  obtain ⟨g, off, cap, cur, rfl, hb, hg, _⟩ := h
  intro k hk
  cases hk
  exact ⟨hb, lt_of_block hg⟩
theorem OwnO.below {w w' : World} {base : Nat} {e : TypeId} {v : Value} {xs : List Value} (h : OwnO w base e v xs) (hb : Below w.heap.size w w') : OwnO w' base e v xs := by
  obtain ⟨g, off, cap, cur, hv, hb', hg, r⟩ := h
  exact ⟨g, off, cap, cur, hv, hb', by rw [hb.block g (lt_of_block hg)]; exact hg, r⟩
theorem OwnO.kept {w w' : World} {base : Nat} {e : TypeId} {v : Value} {xs : List Value} {row : Option Nat} (h : OwnO w base e v xs) (hg : w.grownBy w' row) (hne : v.ownBlock ≠ row) : OwnO w' base e v xs := by
  obtain ⟨g, off, cap, cur, rfl, hb', hg', r⟩ := h
  exact ⟨g, off, cap, cur, rfl, hb', by rw [hg.block g (lt_of_block hg') (fun e => hne e)]; exact hg', r⟩
theorem OwnO.bs {w : World} {base : Nat} {e : TypeId} {v : Value} {bs : List UInt8} (h : OwnO w base e v (bs.map bv)) : ∃ ao cap, v = .slice ao bs.length cap ∧ bs.length ≤ cap ∧ cap ≤ maxLen ∧ Bs w ao bs := by
  obtain ⟨g, off, cap, cur, hv, hb, hg, hle, hmx, hsz, htk⟩ := h
  rw [List.length_map] at hv hle htk
  refine ⟨_, cap, hv, hle, hmx, .inr ⟨g, off, rfl, fun j hj => ?_⟩⟩
  rw [cell_of_row w g (off + j) cur e (0, 0) hg]
  have : ((cur.toList.drop off).take bs.length)[j]? = some (bv bs[j]) := by rw [htk]; simp [List.getElem?_eq_getElem hj]
  rw [List.getElem?_take, if_pos hj, List.getElem?_drop] at this
  simpa using this
/-- A cut of an owned slice. -/
theorem OwnO.cut {w : World} {base : Nat} {e : TypeId} {ao : Option Addr} {n cap : Nat} {xs : List Value} (h : Own w base e (.slice ao n cap) xs) (k : Nat) (hk : k < xs.length) :
    n = xs.length ∧ ∃ g, ao = some ⟨g, 0, none⟩ ∧ k < cap ∧ OwnO w base e (.slice (some ⟨g, k, none⟩) (n - k) (cap - k)) (xs.drop k) := by
  rcases h.2 with ⟨h2, h0⟩ | ⟨g, cap', cur, hv, hb, hg, hle, hmx, hsz, htk⟩
  · omega
  · cases hv
    refine ⟨rfl, g, rfl, by omega, g, k, cap - k, cur, by rw [List.length_drop], hb, hg, by rw [List.length_drop]; omega, by omega, by omega, ?_⟩
    rw [List.length_drop, ← List.drop_take]
    simp only [Nat.mul_one] at htk
    rw [htk]
theorem OwnO.of_own {w : World} {base : Nat} {e : TypeId} {v : Value} {xs : List Value} (h : Own w base e v xs) (hv : v ≠ .slice none 0 0) : OwnO w base e v xs := by
  rcases h.2 with ⟨h2, _⟩ | ⟨g, cap', cur, rfl, hb, hg, hle, hmx, hsz, htk⟩
  · exact absurd h2 hv
  · exact ⟨g, 0, cap', cur, rfl, hb, hg, hle, hmx, by omega, by simpa using htk⟩

section
variable {P : Program} (w : World)
theorem run_appO {t tx ty e : TypeId} {bytes : Nat} (E : Elem P t e bytes) (base : Nat) (v : Value) (xs : List Value) (hown : OwnO w base e v xs) (x : Value) (news : List Value) (hs : Src P 1 tx x news.length news w)
    (h63 : xs.length + news.length ≤ maxLen) (hbytes : (xs.length + news.length) * bytes ≤ 140737488355328) (hbase : base ≤ w.heap.size) :
    ∃ v' w', (Builtin.append_ #[t, tx] ty #[v, x]).run P w = .ok v' w' ∧ OwnO w' base e v' (xs ++ news) ∧ Step w v w' v' := by
  obtain ⟨ht, i, z, hi, hz, hsize, rfl, hzs⟩ := E
  have hs' : Src P i.size tx x news.length news w := by rw [hsize]; exact hs
  have hsmall : xs.length + news.length ≤ 9223372036854775807 := by simp only [maxLen] at h63; omega
  obtain ⟨g, off, cap, cur, rfl, hbg, hg, hnc, hcm, hcs, htake⟩ := hown
  by_cases hroom : xs.length + news.length ≤ cap
  · have hst := run_storeCells_at P g (off + xs.length) e news 0 cur w hg (by omega) hs.one
    simp only [Nat.add_zero] at hst
    refine ⟨.slice (some ⟨g, off, none⟩) (xs.length + news.length) cap, w.setRow g (cur.toList.take (off + xs.length) ++ news ++ cur.toList.drop (off + xs.length + news.length)).toArray, ?_,
      ⟨g, off, cap, _, by rw [List.length_append], hbg, setRow_heap w g cur _ e _ hg, by rw [List.length_append]; exact hroom, hcm, ?_, ?_⟩,
      ⟨⟨rfl, rfl, rfl, by simp, fun k _ hk => setRow_other w g k _ (fun e => hk (by simp [Value.ownBlock, e]))⟩, .inl rfl⟩⟩
    · rcases hs'.kind with ⟨e', hk⟩ | hk <;> simp [Builtin.append_, run_underlying ht, run_underlying hk, sizeOf, typeInfo, hi, hsize, hs'.len, hroom, (hsize ▸ hs'.cells), Addr.add_lit, hst]
    · simp only [List.size_toArray, List.length_append, List.length_take, List.length_drop, Array.length_toList]
      omega
    · have hcl : cur.toList.length = cur.size := Array.length_toList
      have e1 : (cur.toList.take (off + xs.length)).drop off = xs := by
        rw [List.drop_take, Nat.add_sub_cancel_left]; exact htake
      rw [List.append_assoc, List.drop_append_of_le_length (by rw [List.length_take]; omega), e1, ← List.append_assoc]
      exact List.take_left
  · have holds : ∀ j u, xs[j]? = some u → w.drew.cell? ((⟨g, off, none⟩ : Addr).add j) = some u := by
      intro j u hu
      have hadd : (⟨g, off, none⟩ : Addr).add j = ⟨g, off + j, none⟩ := by unfold Addr.add; split <;> simp_all
      obtain ⟨hj, _⟩ := List.getElem?_eq_some_iff.1 hu
      have k : w.cell? ⟨g, off + j, none⟩ = some u := by
        rw [cell_of_row w g (off + j) cur e (0, 0) hg]
        rw [← htake, List.getElem?_take, if_pos hj, List.getElem?_drop] at hu
        simpa using hu
      rw [hadd]; simpa using k
    have hr := run_append_grow_src (P := P) w t tx ty e i z ht hi hz (some ⟨g, off, none⟩) xs.length cap xs (run_firstCells_some w.drew i.size xs.length ⟨g, off, none⟩ xs.length cap xs (by rw [hsize, Nat.mul_one]) holds) x news.length news hs' (by omega) (by omega) (growslice_fits (by omega) hbytes)
    have hge := grownCap_ge w (xs.length + news.length) cap e
    have hcm : grownCap w (xs.length + news.length) cap e ≤ maxLen := grownCap_le_maxLen w (xs.length + news.length) cap e h63
    refine ⟨_, _, hr, ⟨w.heap.size, 0, _, _, by rw [List.length_append], hbase, heap_alloc_new w.drew _, by rw [List.length_append]; exact hge, hcm, ?_, ?_⟩, ⟨⟨rfl, rfl, rfl, by simp, fun k hk _ => Below.heap_alloc w.drew _ k hk⟩, .inr ⟨w.heap.size, rfl, Nat.le_refl _⟩⟩⟩
    · simp only [Array.size_append, List.size_toArray, List.length_append, size_zeroCells, hzs]
      omega
    · simp only [Array.toList_append, List.drop_zero]
      exact List.take_left
theorem wpList_appO {ops : Array Oper} {rest : List Oper} {o : Oper} {a : Act} {Q : Exit → Act → World → Prop} (hgd : o.guard = none) (s x : Operand) (t tx : TypeId) (ho : o.op = .call { callee := .builtin .append, args := #[s, x], argTypes := #[t, tx] })
    {e : TypeId} {bytes : Nat} (E : Elem P t e bytes) (base : Nat) (v : Value) (xs : List Value) (hv : a.eval s = v) (hown : OwnO w base e v xs) (y : Value) (hy : a.eval x = y) (news : List Value) (hs : Src P 1 tx y news.length news w)
    (h63 : xs.length + news.length ≤ maxLen) (hbytes : (xs.length + news.length) * bytes ≤ 140737488355328) (hbase : base ≤ w.heap.size)
    (h : ∀ v' w', OwnO w' base e v' (xs ++ news) → Step w v w' v' → wpList P ops Q rest (a.put o.dst v') w') : wpList P ops Q (o :: rest) a w := by
  refine wpList_plain hgd fun K hK => ?_
  obtain ⟨v', w', hr, h2, h3⟩ := run_appO (P := P) w (ty := o.type) E base v xs hown y news hs h63 hbytes hbase
  unfold Oper.wp execOp
  simp only [ho, resolve, invoke, builtin, Sem.run_bind, Sem.run_pure, Result.andThen_ok, List.map_toArray, List.map_cons, List.map_nil, hv, hy, hr]
  exact hK _ _ (h v' w' h2 h3)
end
end Go.Proofs.Ytcjakgogdbfagaa
namespace Go.Proofs.Ytcjakgogdbfagaa
open Go.RowKit

set_option maxHeartbeats 400000 in
theorem refNumber_any (n : Int) (w : World) :
    Calls Try.prog 51 #[.int .i64 n] w fun e w' => ∃ v', e = .returned v' ∧ OwnB w' w.heap.size v' (be64 n) ∧ Below w.heap.size w w' := by
  have hw : IntKind.u64.wrap n = (((n % 18446744073709551616).toNat : Nat) : Int) := by rw [IntKind.wrap_u64]; omega
  unfold be64
  generalize (n % 18446744073709551616).toNat = m at hw
  go_enter Try.func51, Try.ntmps51
  go_wp2
  go_loopw [3, 4] (fun u i wr => ∃ k : Nat, k ≤ 8 ∧ i = .int .i64 (56 - 8 * (k : Int)) ∧ OwnB wr w.heap.size u ((be m 8).take k) ∧ Below w.heap.size w wr) (fun _ i _ => (intOf i + 8).toNat)
  case atStart => exact ⟨0, Nat.zero_le _, by go_num, Own.nil _ _ _, Below.refl _ _⟩
  case round =>
    obtain ⟨k, hk, rfl, ho, hb⟩ := hrel
    by_cases hlt : k < 8
    · have hsz := hb.size
      have hl : ((be m 8).take k).length = k := by simp [be_length]; omega
      have hby : ((m : Int) / 2 ^ (56 - 8 * k)) % 256 = (((UInt8.ofNat (m / 256 ^ (8 - 1 - k))).toNat : Nat) : Int) := by rw [← be_byte, show 8 * (8 - 1 - k) = 56 - 8 * k by omega]
      generalize hxs : (be m 8).take k = xs at ho hl
      have Hxs : Hid ((be m 8).take k = xs) := hxs
      clear hxs
      go_wp2_with (at_builtin; go_loud (refine wpList_app _ rfl _ _ _ _ rfl elem_u8 w.heap.size _ _ rfl (Own.alloc ho _) _ rfl [bv (UInt8.ofNat (m / 256 ^ (8 - 1 - k)))] (src_one _ Try.underlying51 _ _ _ (by first | rfl | rw [hby]) rfl _) (by simp only [List.length_map, List.length_singleton, hl]; unfold maxLen; omega) (by simp only [List.length_map, List.length_singleton, hl]; omega) (by simp; omega) ?_))
      intro v1 w1 ho1 hst1
      have R1 : OwnB w1 w.heap.size v1 (List.take (k + 1) (be m 8)) := by
        unfold OwnB
        rw [be_take m 8 k hlt, Hxs.out, List.map_append]
        exact ho1
      have R2 : Below w.heap.size w w1 := (hb.alloc hb.size _).trans (hst1.below (by simp; omega) (fun k h => (ho.lt k h).1))
      clear ho1 hst1 ho hb hby
      go_wp2
      go_roundw
      case rel => exact ⟨k + 1, by omega, by go_num, R1, R2⟩
      case measure => simp [intOf]; omega
    · have HE : Hid ((be m 8).take k = be m 8) := List.take_of_length_le (by rw [be_length]; omega)
      go_wp2
      go_ret
      rw [HE.out] at ho
      exact ⟨_, rfl, ho, hb⟩

theorem bitsTo_lt (c x k : Nat) (h : c < 4294967296) : bitsTo c x k < 4294967296 := by
  induction k with
  | zero => exact h
  | succ k ih =>
    unfold bitsTo bitStep s1
    have hx : bitsTo c x k ^^^ x / 2 ^ k % 2 < 4294967296 := Nat.xor_lt_two_pow (n := 32) ih (by omega)
    split
    · exact Nat.xor_lt_two_pow (n := 32) (by omega) (by decide)
    · omega
/-- What one bit of the register and one of a byte come to, as the program reckons it. -/
theorem bit_parts (c b : Nat) (hc : c < 4294967296) (hb : b < 2) : ∃ p t : Nat, bits .and .u32 (c : Int) 1 = (p : Int) ∧ bits .xor .u32 (p : Int) (b : Int) = (t : Int) ∧ t < 2 ∧ (t = 1 → bits .xor .u32 ((c : Int) / 2) 3988292384 = ((bitStep c b : Nat) : Int)) ∧ (t = 0 → (c : Int) / 2 = ((bitStep c b : Nat) : Int)) := by
  have hp : (c ^^^ b) % 2 = (c % 2 + b) % 2 := by rw [xor_par]; omega
  have hh : (c ^^^ b) / 2 = c / 2 := by rw [xor_half, show b / 2 = 0 by omega, Nat.xor_zero]
  refine ⟨c % 2, (c % 2 + b) % 2, ?_, ?_, by omega, fun ht => ?_, fun ht => ?_⟩
  · have := u32_and_nat c 1 hc (by decide)
    rw [show ((1 : Nat) : Int) = 1 from rfl] at this
    rw [this, show (1 : Nat) = 2 ^ 1 - 1 from rfl, Nat.and_two_pow_sub_one_eq_mod]
  · have e : c % 2 ^^^ b = (c % 2 + b) % 2 := by
      rcases Nat.mod_two_eq_zero_or_one c with h | h <;> rcases (show b = 0 ∨ b = 1 by omega) with k | k <;> rw [h, k] <;> rfl
    rw [u32_xor_nat (c % 2) b (by omega) (by omega), e]
  · unfold bitStep s1
    rw [if_pos (by omega), hh]
    have := u32_xor_nat (c / 2) 3988292384 (by omega) (by decide)
    rw [show ((c / 2 : Nat) : Int) = (c : Int) / 2 by omega, show ((3988292384 : Nat) : Int) = 3988292384 from rfl] at this
    exact this
  · unfold bitStep s1
    rw [if_neg (by omega), hh]
    omega
theorem byte_bit (x k : Nat) (hx : x < 256) : bits .and .u32 ((x : Int) / 2 ^ k) 1 = ((x / 2 ^ k % 2 : Nat) : Int) := by
  have h1 : x / 2 ^ k < 4294967296 := Nat.lt_of_le_of_lt (Nat.div_le_self _ _) (by omega)
  have := u32_and_nat (x / 2 ^ k) 1 h1 (by decide)
  rw [show ((1 : Nat) : Int) = 1 from rfl] at this
  rw [show ((x / 2 ^ k : Nat) : Int) = (x : Int) / 2 ^ k by rw [Int.natCast_ediv]; norm_cast] at this
  rw [this, show (1 : Nat) = 2 ^ 1 - 1 from rfl, Nat.and_two_pow_sub_one_eq_mod]

theorem not_bits' (c : Nat) (h : c < 4294967296) : bits .xor .u32 (c : Int) 4294967295 = ((4294967295 - c : Nat) : Int) := by
  have k := not_bits c h
  rw [show IntKind.u32.max = ((4294967295 : Nat) : Int) from rfl, u32_xor_nat 4294967295 c (by decide) h, Nat.xor_comm, ← u32_xor_nat c 4294967295 h (by decide)] at k
  exact k

end Go.Proofs.Ytcjakgogdbfagaa
