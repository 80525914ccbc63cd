/- asm.putLine. code.rightCode, code.Right. code.Right. asm.Print: its parts, plain and as calls. value.readBytes, guess, readWord. -/
import Derived.Test.YtbjipcpoiiegkaaGreatDoorAH
import Derived.Test.YtbjipcpoiiegkaaGreatDoorVA
import Derived.Shelf.Strings.BuilderK
import Derived.Test.YtbjipcpoiiegkaaGreatDoorCR
import Derived.Test.YtbjipcpoiiegkaaGreatDoorPA
namespace Go.Proofs.YtbjipcpoiiegkaaGreatDoor
open Go.RowKit
theorem writeString_k (B b : Nat) (bs : List Value) (s : ByteArray) (w : World) (h : Lib.IsBuilderF 75 5 B b bs w) (hlen : bs.length + s.size ≤ 140737488355328) (hBw : B ≤ w.heap.size) :
    Calls Tryz.prog 68 #[.pointer (some ⟨b, 0, none⟩), .string s] w fun e w' => e = .returned (.tuple #[.int .i64 s.size, .nilIface]) ∧ (Lib.BuilderAtF 75 5 B b (.pointer (some ⟨b, 0, none⟩)) (bs ++ Lib.strCells s) w' ∧ Below B w w' ∧ Lib.OthersKept 5 (some b) w w') :=
  Any.Builder_WriteString_k { Tryz.lays156 with } Tryz.Builder_Extra_156 B b bs s w h hlen hBw
/-- A builder with these bytes, of which none is used elsewhere. -/
def Bl (B b : Nat) (bs : List UInt8) (w : World) : Prop := Lib.IsBuilderF 75 5 B b (Lib.byteCells bs) w
/-- All blocks but the builder's, that are no bytes, stay. -/
def Oth (b : Nat) (w w' : World) : Prop := Lib.OthersKept 5 (some b) w w'
theorem bytes_more (bs s : List UInt8) : Lib.byteCells bs ++ Lib.strCells ⟨s.toArray⟩ = Lib.byteCells (bs ++ s) := by simp [Lib.byteCells, Lib.strCells]
theorem grown_below {w w' : World} (h : Below w.heap.size w w') : w.grownBy w' none := ⟨h.os, h.tape, h.output, h.size, fun k hk _ => h.block k hk⟩
theorem none_or (o : Option Nat) : o = none ∨ o ≠ none := by cases o <;> simp
/-- What lies above changes no builder. -/
theorem Bl.below {B b : Nat} {bs : List UInt8} {w w' : World} (h : Bl B b bs w) (hb : Below w.heap.size w w') : Bl B b bs w' := by
  have old : ∀ x, w.heap[b]? = some x → w'.heap[b]? = some x := fun x hx => (hb.block b (lt_of_block hx)).trans hx
  rcases h with ⟨h1, v, h2, h3, h4⟩ | ⟨h1, v, h2, h3, h4⟩
  · exact .inl ⟨h1, v, old _ h2, World.ownsRowF.kept h3 (grown_below hb) (none_or _), h4⟩
  · exact .inr ⟨h1, v, old _ h2, World.ownsRowF.kept h3 (grown_below hb) (none_or _), h4⟩
theorem oth_below {b : Nat} {w w' : World} (h : Below w.heap.size w w') : Oth b w w' := fun k _ hk _ _ => (h.block k (lt_of_block hk)).trans hk
set_option maxRecDepth 100000 in
set_option maxHeartbeats 1000000 in
theorem putLine_any (B b : Nat) (bs : List UInt8) (bk c n : Nat) (xs : List (List UInt8)) (hn : xs.length = n) (w : World) (hB : Bl B b bs w) (hBw : B ≤ w.heap.size) (hcells : ∀ j (h : j < xs.length), w.cell? ⟨bk, j, none⟩ = some (.string ⟨xs[j].toArray⟩)) (hbk : bk < w.heap.size) (hN : n ≤ 1000) (hcap : n ≤ c) (hlen : (Lib.join xs [32]).length ≤ 100000000) (hbs : bs.length ≤ 100000000000) :
    Calls Tryz.prog 46 #[.pointer (some ⟨b, 0, none⟩), .slice (some ⟨bk, 0, none⟩) n c] w fun e w' => e = .returned (.tuple #[]) ∧ Bl B b (bs ++ Lib.join xs [32] ++ [10]) w' ∧ Below B w w' ∧ Oth b w w' := by
  have hJ := joined_any bk 0 c n xs hn w (fun j h => by rw [Nat.zero_add]; exact hcells j h) hbk (by omega) hcap (by omega)
  generalize Lib.join xs [32] = s at hJ hlen ⊢
  clear hcells
  go_enter Tryz.func46, Tryz.ntmps46
  go_wp2_with (go_at_call 32; refine hJ.mono ?_; rintro e w1 ⟨rfl, hb1⟩)
  have hB1 : Bl B b bs w1 := hB.below hb1
  have hs1 := hb1.size
  have hW := writeString_k B b (Lib.byteCells bs) ⟨s.toArray⟩ w1 hB1 (by simp [Lib.byteCells, ByteArray.size]; omega) (by omega)
  refine hW.mono ?_
  rintro e w2 ⟨rfl, hB2, hb2, ho2⟩
  rw [bytes_more] at hB2
  have hs2 := hb2.size
  have hW2 := writeString_k B b (Lib.byteCells (bs ++ s)) ⟨#[10]⟩ w2 (.inr hB2) (by simp [Lib.byteCells, ByteArray.size]; omega) (by omega)
  go_wp2_with (go_at_call 68; refine hW2.mono ?_; rintro e w3 ⟨rfl, hB3, hb3, ho3⟩)
  go_end0
  refine ⟨rfl, .inr ?_, (hb1.mono hBw).trans (hb2.trans hb3), (oth_below hb1).trans (Lib.OthersKept.trans ho2 ho3)⟩
  have := bytes_more (bs ++ s) [10]
  rw [← this]
  exact hB3
end Go.Proofs.YtbjipcpoiiegkaaGreatDoor
namespace Go.Proofs.YtbjipcpoiiegkaaGreatDoor
open Go.RowKit
theorem name_empty (n : Int) : (nameT n == []) = !(decide (1 ≤ n) && decide (n ≤ 53)) := by
  by_cases h : n < 1 ∨ 53 < n
  · have : nameT n = [] := rowOf_none _ _ _ h
    rw [this]
    have : (decide (1 ≤ n) && decide (n ≤ 53)) = false := by
      rcases h with h | h
      · simp; omega
      · simp; omega
    rw [this]
    rfl
  · have : (decide (1 ≤ n) && decide (n ≤ 53)) = true := by simp; omega
    rw [this]
    have H : ∀ k : Fin 54, 1 ≤ k.1 → (nameTab.getD k.1 [] == []) = false := by decide +kernel
    have := H ⟨n.toNat, by omega⟩ (by show 1 ≤ n.toNat; omega)
    unfold nameT rowOf
    rw [if_pos (by omega)]
    exact this
set_option maxRecDepth 100000 in
set_option maxHeartbeats 8000000 in
theorem rightCode_any (s : Scr) (f : Fn) (V0 V1 v0 v1 v2 v3 : Value) (w : World) (hs : ScIs w.cell? s V0 V1) (hf : FnIs w.cell? f v0 v1 v2 v3) (hsf : s.fits) (hff : f.fits) : Calls Tryz.prog 65 #[.agg #[V0, V1], .agg #[v0, v1, v2, v3]] w fun e w' => e = .returned (.bool (f.code.all (insOk s.consts.length s.funcs.length (f.p.length + f.l.length)))) ∧ Below w.heap.size w w' := by
  have hBn := fun (t : Int) (W : World) (hk : ∀ a v, w.cell? a = some v → W.cell? a = some v) => bounds_any t s f V0 V1 v0 v1 v2 v3 W (hs.keep hk) (hf.keep hk) hsf hff
  obtain ⟨⟨a0, c0, rfl, _⟩, ⟨a1, c1, rfl, _⟩, ⟨a2, c2, rfl, _⟩, ⟨a3, c3, rfl, g3⟩⟩ := hf
  obtain ⟨⟨A0, C0, rfl, _⟩, ⟨A1, C1, rfl, _⟩⟩ := hs
  obtain ⟨_, _, _, z3⟩ := hff
  obtain ⟨sl, hsl⟩ : ∃ sl, sl = f.p.length + f.l.length := ⟨_, rfl⟩
  rw [← hsl] at hBn ⊢
  clear hsl hsf
  generalize hnc : s.consts.length = nc at *
  generalize hnf : s.funcs.length = nf at *
  obtain ⟨n3, hn3⟩ : ∃ n, n = f.code.length := ⟨_, rfl⟩
  have H3 := hid hn3
  rw [← hn3] at z3 hBn ⊢
  clear hn3 hnc hnf
  generalize f.p.length = n0 at *
  generalize f.r.length = n1 at *
  generalize f.l.length = n2 at *
  obtain ⟨W2, hW2⟩ : ∃ W2, W2 = (w.alloc (.cells #[.slice A0 nc C0, .slice A1 nf C1] 39)).alloc (.cells #[.slice a0 n0 c0, .slice a1 n1 c1, .slice a2 n2 c2, .slice a3 n3 c3] 32) := ⟨_, rfl⟩
  have hb2 : Below w.heap.size w W2 := by rw [hW2]; exact ((Below.refl _ w).alloc (Nat.le_refl _) _).alloc (by simp) _
  have bA : W2.heap[w.heap.size]? = some (.cells #[.slice A0 nc C0, .slice A1 nf C1] 39 (0, 0)) := by rw [hW2, Below.heap_alloc _ _ _ (by simp)]; exact heap_alloc_new w _
  have bB : W2.heap[w.heap.size + 1]? = some (.cells #[.slice a0 n0 c0, .slice a1 n1 c1, .slice a2 n2 c2, .slice a3 n3 c3] 32 (0, 0)) := by
    have := heap_alloc_new (w.alloc (.cells #[.slice A0 nc C0, .slice A1 nf C1] 39)) (.cells #[.slice a0 n0 c0, .slice a1 n1 c1, .slice a2 n2 c2, .slice a3 n3 c3] 32)
    rw [hW2]; simpa using this
  have lA := (Array.getElem?_eq_some_iff.1 bA).1
  have lB := (Array.getElem?_eq_some_iff.1 bB).1
  replace g3 := g3.keep (below_keep hb2)
  go_enter Tryz.func65, Tryz.ntmps65
  go_wp2_with fail
  rw [← hW2]
  clear hW2
  go_loopw [12] (fun i wr => ∃ k : Nat, k ≤ n3 ∧ i = .int .i64 k ∧ Hid (∀ (j : Nat) (h : j < f.code.length), j < k → insOk nc nf sl f.code[j] = true) ∧ Below W2.heap.size W2 wr) (fun i _ => n3 - (intOf i).toNat)
  case atStart => exact ⟨0, Nat.zero_le _, rfl, hid (by omega), Below.refl _ _⟩
  case round =>
    obtain ⟨k, hk, rfl, hr, hbr⟩ := hrel
    have hbw : Below w.heap.size w wr := hb2.trans (hbr.mono hb2.size)
    by_cases hlt : k < n3
    · rcases g3 with hz | ⟨x0, o0, rfl, hc0⟩
      · have := H3.out; rw [hz] at this; simp at this; omega
      have kl : k < f.code.length := by have := H3.out; omega
      obtain ⟨q0, q1⟩ := hc0 k kl
      have HS : Hid (insOk nc nf sl f.code[k] = false → (f.code.all (insOk nc nf sl)) = false) := hid fun h => all_stop kl h
      have HT : Hid (insOk nc nf sl f.code[k] = true → ∀ (j : Nat) (h : j < f.code.length), j < k + 1 → insOk nc nf sl f.code[j] = true) := hid fun h j h1 hjk => by
        rcases Nat.lt_or_ge j k with h3 | h3
        · exact hr.out j h1 h3
        · obtain rfl : j = k := by omega
          exact h
      generalize f.code[k] = x at q0 q1 HS HT
      obtain ⟨xo, xa⟩ := x
      simp only at q0 q1
      replace q0 := below_keep hbr _ _ q0
      replace q1 := below_keep hbr _ _ q1
      clear hc0
      have HI : Hid (insOk nc nf sl (xo, xa) = (decide (1 ≤ xo) && decide (xo ≤ 53) && decide ((boundsN (takesN xo) nc nf sl).1 ≤ xa) && decide (xa ≤ (boundsN (takesN xo) nc nf sl).2))) := hid rfl
      have hTk := fun W => takes_all xo W
      have hNm := fun W => name_any xo W
      have hnm := name_empty xo
      have hBx := hBn (takesN xo)
      clear hBn
      generalize boundsN (takesN xo) nc nf sl = bd at hBx HI
      obtain ⟨lo, hi⟩ := bd
      simp only at hBx HI
      generalize takesN xo = tk at hTk hBx
      generalize nameT xo = nm at hNm hnm
      obtain ⟨W3, hW3⟩ : ∃ W3, W3 = wr.alloc (.cells #[.int .i64 xo, .int .i64 xa] 23) := ⟨_, rfl⟩
      have hb3 : Below wr.heap.size wr W3 := by rw [hW3]; exact (Below.refl _ wr).alloc (Nat.le_refl _) _
      have b3 : W3.heap[wr.heap.size]? = some (.cells #[.int .i64 xo, .int .i64 xa] 23 (0, 0)) := by rw [hW3]; exact heap_alloc_new wr _
      have bA3 := (hb3.block _ (Nat.lt_of_lt_of_le lA hbr.size)).trans ((hbr.block _ lA).trans bA)
      have bB3 := (hb3.block _ (Nat.lt_of_lt_of_le lB hbr.size)).trans ((hbr.block _ lB).trans bB)
      have i0 : W3.cell? ⟨wr.heap.size, 0, none⟩ = some (.int .i64 xo) := by rw [Lib.cell_of_heap b3]; rfl
      have s0 : W3.cell? ⟨w.heap.size, 0, none⟩ = some (.slice A0 nc C0) := by rw [Lib.cell_of_heap bA3]; rfl
      have s1 : W3.cell? ⟨w.heap.size, 1, none⟩ = some (.slice A1 nf C1) := by rw [Lib.cell_of_heap bA3]; rfl
      have f0 : W3.cell? ⟨w.heap.size + 1, 0, none⟩ = some (.slice a0 n0 c0) := by rw [Lib.cell_of_heap bB3]; rfl
      have f1 : W3.cell? ⟨w.heap.size + 1, 1, none⟩ = some (.slice a1 n1 c1) := by rw [Lib.cell_of_heap bB3]; rfl
      have f2 : W3.cell? ⟨w.heap.size + 1, 2, none⟩ = some (.slice a2 n2 c2) := by rw [Lib.cell_of_heap bB3]; rfl
      have f3 : W3.cell? ⟨w.heap.size + 1, 3, none⟩ = some (.slice (some ⟨x0, o0, none⟩) n3 c3) := by rw [Lib.cell_of_heap bB3]; rfl
      have hB3 := hBx W3.drew (fun a v h => below_keep ((hbw.trans (hb3.mono hbw.size)).drew) a v h)
      clear hBx
      go_wp2_with fail
      rw [← hW3]
      have l3 := (Array.getElem?_eq_some_iff.1 b3).1
      clear hW3
      go_region_with (first | (go_at_call 26; refine (hTk _).mono ?_; rintro e w' ⟨rfl, rfl⟩) | (go_at_call 84; refine hB3.mono ?_; rintro e w5 ⟨rfl, hb5⟩; have hb5' : Below W3.heap.size W3 w5 := (Below.refl _ W3).drew.trans hb5; have b5 := (hb5'.block _ l3).trans b3; have j0 : w5.cell? ⟨wr.heap.size, 0, none⟩ = some (.int .i64 xo) := (by rw [Lib.cell_of_heap b5]; rfl); have j1 : w5.cell? ⟨wr.heap.size, 1, none⟩ = some (.int .i64 xa) := (by rw [Lib.cell_of_heap b5]; rfl); have hbw5 := hbw.trans ((hb3.trans (hb5'.mono hb3.size)).mono hbw.size); have hbr5 := hbr.trans ((hb3.trans (hb5'.mono hb3.size)).mono hbr.size); clear hb5 hb5' b5 hB3 hTk))
      all_goals clear i0 s0 s1 f0 f1 f2 f3 b3 bA3 bB3 hb3 q0 q1
      all_goals
        by_cases hok : 1 ≤ xo ∧ xo ≤ 53
        · have hnm' : (nm == []) = false := by rw [hnm]; simp [hok.1, hok.2]
          clear hnm
          by_cases hlo : lo ≤ xa
          · by_cases hhi : xa ≤ hi
            · have HE : Hid (∀ (j : Nat) (h : j < f.code.length), j < k + 1 → insOk nc nf sl f.code[j] = true) := hid (HT.out (by rw [HI.out]; simp [hok.1, hok.2, hlo, hhi]))
              clear HI HT HS
              go_wp2_with (go_at_call 31; refine (hNm _).mono ?_; rintro e w' ⟨rfl, rfl⟩)
              exact ⟨⟨k + 1, by omega, by go_num, HE, hbr5⟩, by simp [intOf]; omega⟩
            · have hhi' : hi < xa := by omega
              have HE : Hid ((f.code.all (insOk nc nf sl)) = false) := hid (HS.out (by rw [HI.out]; simp [hhi]))
              clear HI HT HS
              go_wp2_with (go_at_call 31; refine (hNm _).mono ?_; rintro e w' ⟨rfl, rfl⟩)
              go_ret
              exact ⟨by rw [HE.out]; rfl, hbw5⟩
          · have hlo' : xa < lo := by omega
            have HE : Hid ((f.code.all (insOk nc nf sl)) = false) := hid (HS.out (by rw [HI.out]; simp [hlo]))
            clear HI HT HS
            go_wp2_with (go_at_call 31; refine (hNm _).mono ?_; rintro e w' ⟨rfl, rfl⟩)
            go_ret
            exact ⟨by rw [HE.out]; rfl, hbw5⟩
        · have hbd : (decide (1 ≤ xo) && decide (xo ≤ 53)) = false := by
            cases h : (decide (1 ≤ xo) && decide (xo ≤ 53)) with
            | false => rfl
            | true => simp at h; exact absurd h hok
          have hnm' : (nm == []) = true := by rw [hnm, hbd]; rfl
          clear hnm
          have HE : Hid ((f.code.all (insOk nc nf sl)) = false) := hid (HS.out (by rw [HI.out, hbd]; simp))
          clear HI HT HS
          go_wp2_with (go_at_call 31; refine (hNm _).mono ?_; rintro e w' ⟨rfl, rfl⟩)
          go_ret
          exact ⟨by rw [HE.out]; rfl, hbw5⟩
    · have HE : Hid ((f.code.all (insOk nc nf sl)) = true) := hid (List.all_eq_true.2 fun z hz => by
        obtain ⟨i, hi, rfl⟩ := List.getElem_of_mem hz
        exact hr.out i hi (by have := H3.out; omega))
      go_wp2_with fail
      go_ret
      exact ⟨by rw [HE.out]; rfl, hbw⟩
end Go.Proofs.YtbjipcpoiiegkaaGreatDoor
namespace Go.Proofs.YtbjipcpoiiegkaaGreatDoor
open Go.RowKit
set_option maxRecDepth 100000 in
set_option maxHeartbeats 2000000 in
theorem right4_any (s : Scr) (V0 V1 : Value) (w : World) (hs : ScIs w.cell? s V0 V1) (hsf : s.fits) : Calls Tryz.prog 44 #[.agg #[V0, V1]] w fun e w' => e = .returned (.bool s.right) ∧ Below w.heap.size w w' := by
  have hRL : ∀ (f : Fn) v0 v1 v2 v3 (W : World), FnIs W.cell? f v0 v1 v2 v3 → f.fits → Calls Tryz.prog 64 #[.agg #[v0, v1, v2, v3]] W fun e w' => e = .returned (.bool f.lists) ∧ Below W.heap.size W w' := fun f v0 v1 v2 v3 W h h' => rightLists_any f v0 v1 v2 v3 W h h'
  have hRC : ∀ (f : Fn) v0 v1 v2 v3 (W : World), (∀ a v, w.cell? a = some v → W.cell? a = some v) → FnIs W.cell? f v0 v1 v2 v3 → f.fits → Calls Tryz.prog 65 #[.agg #[V0, V1], .agg #[v0, v1, v2, v3]] W fun e w' => e = .returned (.bool (f.code.all (insOk s.consts.length s.funcs.length (f.p.length + f.l.length)))) ∧ Below W.heap.size W w' := fun f v0 v1 v2 v3 W hk h h' => rightCode_any s f V0 V1 v0 v1 v2 v3 W (hs.keep hk) h hsf h'
  obtain ⟨⟨A0, C0, rfl, h0⟩, ⟨A1, C1, rfl, h1⟩⟩ := hs
  obtain ⟨z0, z1, z2, z3⟩ := hsf
  obtain ⟨nc, hnc⟩ : ∃ n, n = s.consts.length := ⟨_, rfl⟩
  obtain ⟨nf, hnf⟩ : ∃ n, n = s.funcs.length := ⟨_, rfl⟩
  have HR : Hid (s.right = (decide (nc ≤ 32) && decide (1 ≤ nf) && decide (nf ≤ 16) && s.consts.all (fun c => decide (c.length ≤ 256)) && s.funcs.all (Fn.right nc nf))) := hid (by rw [hnc, hnf]; rfl)
  rw [← hnc] at z0 hRC ⊢
  rw [← hnf] at z1 hRC ⊢
  have HC := hid hnc
  have HF := hid hnf
  clear hnc hnf
  obtain ⟨W2, hW2⟩ : ∃ W2, W2 = w.alloc (.cells #[.slice A0 nc C0, .slice A1 nf C1] 39) := ⟨_, rfl⟩
  have hb2 : Below w.heap.size w W2 := by rw [hW2]; exact (Below.refl _ w).alloc (Nat.le_refl _) _
  have bA : W2.heap[w.heap.size]? = some (.cells #[.slice A0 nc C0, .slice A1 nf C1] 39 (0, 0)) := by rw [hW2]; exact heap_alloc_new w _
  have lA := (Array.getElem?_eq_some_iff.1 bA).1
  have pA0 : W2.cell? ⟨w.heap.size, 0, none⟩ = some (.slice A0 nc C0) := by rw [Lib.cell_of_heap bA]; rfl
  have pA1 : W2.cell? ⟨w.heap.size, 1, none⟩ = some (.slice A1 nf C1) := by rw [Lib.cell_of_heap bA]; rfl
  replace h0 := h0.keep (below_keep hb2)
  replace h1 := h1.keep (below_keep hb2)
  by_cases d0 : nc ≤ 32
  · by_cases d1 : 1 ≤ nf
    · by_cases d2 : nf ≤ 16
      · have HR' : Hid (s.right = (s.consts.all (fun c => decide (c.length ≤ 256)) && s.funcs.all (Fn.right nc nf))) := hid (by rw [HR.out]; simp [d0, d1, d2])
        clear HR
        go_enter Tryz.func44, Tryz.ntmps44
        go_wp2_with fail
        rw [← hW2]
        clear hW2
        go_loopw [26] (fun i wr => ∃ k : Nat, k ≤ nc ∧ i = .int .i64 k ∧ Hid (∀ (j : Nat) (h : j < s.consts.length), j < k → decide (s.consts[j].length ≤ 256) = true) ∧ wr = W2) (fun i _ => nc - (intOf i).toNat)
        case atStart => exact ⟨0, Nat.zero_le _, rfl, hid (by omega), rfl⟩
        case round =>
          obtain ⟨k, hk, rfl, hr, hw⟩ := hrel
          replace hw := hw.symm
          subst hw
          by_cases hlt : k < nc
          · rcases h0 with hz | ⟨x0, o0, rfl, hc0⟩
            · have := HC.out; rw [hz] at this; simp at this; omega
            have kl : k < s.consts.length := by have := HC.out; omega
            have q0 := hc0 k kl
            have hzz := z3 s.consts[k] (by simp)
            have HS : Hid (decide (s.consts[k].length ≤ 256) = false → s.right = false) := hid fun h => by rw [HR'.out, all_stop (p := fun (c : List UInt8) => decide (c.length ≤ 256)) kl h]; rfl
            have HT : Hid (decide (s.consts[k].length ≤ 256) = true → ∀ (j : Nat) (h : j < s.consts.length), j < k + 1 → decide (s.consts[j].length ≤ 256) = true) := hid fun h j h1 hjk => by
              rcases Nat.lt_or_ge j k with h3 | h3
              · exact hr.out j h1 h3
              · obtain rfl : j = k := by omega
                exact h
            generalize s.consts[k] = x at q0 HS HT hzz
            clear hc0
            by_cases hx : x.length ≤ 256
            · have HE := hid (HT.out (decide_eq_true hx))
              clear HS HT
              go_wp2_with fail
              exact ⟨⟨k + 1, by omega, by go_num, HE, by first | rfl | trivial⟩, by simp [intOf]; omega⟩
            · have hx' : 256 < x.length := by omega
              have HE := hid (HS.out (decide_eq_false hx))
              clear HS HT
              go_wp2_with fail
              go_ret
              exact ⟨by rw [HE.out]; rfl, hb2⟩
          · have HA : Hid (s.right = s.funcs.all (Fn.right nc nf)) := hid (by
              have : s.consts.all (fun c => decide (c.length ≤ 256)) = true := List.all_eq_true.2 fun z hz => by
                obtain ⟨i, hi, rfl⟩ := List.getElem_of_mem hz
                exact hr.out i hi (by have := HC.out; omega)
              rw [HR'.out, this]
              rfl)
            clear hr HR'
            go_wp2_with fail
            go_loopw [37] (fun i w5 => ∃ k : Nat, k ≤ nf ∧ i = .int .i64 k ∧ Hid (∀ (j : Nat) (h : j < s.funcs.length), j < k → Fn.right nc nf s.funcs[j] = true) ∧ Below W2.heap.size W2 w5) (fun i _ => nf - (intOf i).toNat)
            case atStart => exact ⟨0, Nat.zero_le _, rfl, hid (by omega), Below.refl _ _⟩
            case round =>
              obtain ⟨k, hk, rfl, hr, hbr⟩ := hrel
              have hbw := hb2.trans (hbr.mono hb2.size)
              by_cases hlt : k < nf
              · rcases h1 with hz | ⟨x0, o0, rfl, hc0⟩
                · have := HF.out; rw [hz] at this; simp at this; omega
                have kl : k < s.funcs.length := by have := HF.out; omega
                obtain ⟨v0, v1, v2, v3, q0, q1, q2, q3, hfn⟩ := hc0 k kl
                have ff := z2 s.funcs[k] (by simp)
                have HS : Hid (Fn.right nc nf s.funcs[k] = false → s.right = false) := hid fun h => by rw [HA.out, all_stop kl h]
                have HT : Hid (Fn.right nc nf s.funcs[k] = true → ∀ (j : Nat) (h : j < s.funcs.length), j < k + 1 → Fn.right nc nf s.funcs[j] = true) := hid fun h j h1 hjk => by
                  rcases Nat.lt_or_ge j k with h3 | h3
                  · exact hr.out j h1 h3
                  · obtain rfl : j = k := by omega
                    exact h
                generalize s.funcs[k] = f at hfn HS HT ff
                have hkp := below_keep hbr
                replace q0 := hkp _ _ q0
                replace q1 := hkp _ _ q1
                replace q2 := hkp _ _ q2
                replace q3 := hkp _ _ q3
                replace hfn := hfn.keep hkp
                clear hc0 hkp
                obtain ⟨⟨fa0, fc0, rfl, F0⟩, ⟨fa1, fc1, rfl, F1⟩, ⟨fa2, fc2, rfl, F2⟩, ⟨fa3, fc3, rfl, F3⟩⟩ := hfn
                have HFR : Hid (Fn.right nc nf f = (f.lists && f.code.all (insOk nc nf (f.p.length + f.l.length)))) := hid rfl
                obtain ⟨W4, hW4⟩ : ∃ W4, W4 = wr.alloc (.cells #[.slice fa0 f.p.length fc0, .slice fa1 f.r.length fc1, .slice fa2 f.l.length fc2, .slice fa3 f.code.length fc3] 32) := ⟨_, rfl⟩
                have hb4 : Below wr.heap.size wr W4 := by rw [hW4]; exact (Below.refl _ wr).alloc (Nat.le_refl _) _
                have b4 : W4.heap[wr.heap.size]? = some (.cells #[.slice fa0 f.p.length fc0, .slice fa1 f.r.length fc1, .slice fa2 f.l.length fc2, .slice fa3 f.code.length fc3] 32 (0, 0)) := by rw [hW4]; exact heap_alloc_new wr _
                have l4 := (Array.getElem?_eq_some_iff.1 b4).1
                have bA4 := (hb4.block _ (Nat.lt_of_lt_of_le lA hbr.size)).trans ((hbr.block _ lA).trans bA)
                have hFn4 : FnIs W4.cell? f (.slice fa0 f.p.length fc0) (.slice fa1 f.r.length fc1) (.slice fa2 f.l.length fc2) (.slice fa3 f.code.length fc3) := FnIs.keep ⟨⟨fa0, fc0, rfl, F0⟩, ⟨fa1, fc1, rfl, F1⟩, ⟨fa2, fc2, rfl, F2⟩, ⟨fa3, fc3, rfl, F3⟩⟩ (below_keep hb4)
                have hL := hRL f _ _ _ _ W4 hFn4 ff
                have hbW4 : Below w.heap.size w W4 := hbw.trans (hb4.mono hbw.size)
                have hbR4 : Below W2.heap.size W2 W4 := hbr.trans (hb4.mono hbr.size)
                have hC : ∀ W, Below W4.heap.size W4 W → Calls Tryz.prog 65 #[.agg #[.slice A0 nc C0, .slice (some ⟨x0, o0, none⟩) nf C1], .agg #[.slice fa0 f.p.length fc0, .slice fa1 f.r.length fc1, .slice fa2 f.l.length fc2, .slice fa3 f.code.length fc3]] W fun e w' => e = .returned (.bool (f.code.all (insOk nc nf (f.p.length + f.l.length)))) ∧ Below W.heap.size W w' := fun W hW => hRC f _ _ _ _ W (below_keep (hbW4.trans (hW.mono hbW4.size))) (hFn4.keep (below_keep hW)) ff
                clear hRC hRL
                generalize f.code.all (insOk nc nf (f.p.length + f.l.length)) = r2 at hC HFR
                generalize f.lists = r1 at hL HFR
                generalize f.p.length = n0 at *
                generalize f.r.length = n1 at *
                generalize f.l.length = n2 at *
                generalize f.code.length = n3 at *
                have hcells : ∀ W, Below W4.heap.size W4 W → (W.cell? ⟨wr.heap.size, 0, none⟩ = some (.slice fa0 n0 fc0) ∧ W.cell? ⟨wr.heap.size, 1, none⟩ = some (.slice fa1 n1 fc1) ∧ W.cell? ⟨wr.heap.size, 2, none⟩ = some (.slice fa2 n2 fc2) ∧ W.cell? ⟨wr.heap.size, 3, none⟩ = some (.slice fa3 n3 fc3)) ∧ W.cell? ⟨w.heap.size, 0, none⟩ = some (.slice A0 nc C0) ∧ W.cell? ⟨w.heap.size, 1, none⟩ = some (.slice (some ⟨x0, o0, none⟩) nf C1) := fun W hW => by
                  have e4 := (hW.block _ l4).trans b4
                  have eA := (hW.block _ (Array.getElem?_eq_some_iff.1 bA4).1).trans bA4
                  exact ⟨⟨by rw [Lib.cell_of_heap e4]; rfl, by rw [Lib.cell_of_heap e4]; rfl, by rw [Lib.cell_of_heap e4]; rfl, by rw [Lib.cell_of_heap e4]; rfl⟩, by rw [Lib.cell_of_heap eA]; rfl, by rw [Lib.cell_of_heap eA]; rfl⟩
                obtain ⟨⟨k0, k1, k2, k3⟩, k4, k5⟩ := hcells W4 (Below.refl _ _)
                go_upto_region 12 with fail
                rw [← hW4]
                clear hW4 q0 q1 q2 q3
                cases r1 with
                | false =>
                  have HE := hid (HS.out (by rw [HFR.out]; rfl))
                  go_wp2_with (go_at_call 64; refine hL.mono ?_; rintro e w6 ⟨rfl, hb6⟩)
                  go_ret
                  exact ⟨by rw [HE.out]; rfl, hbW4.trans (hb6.mono hbW4.size)⟩
                | true =>
                  cases r2 with
                  | false =>
                    have HE := hid (HS.out (by rw [HFR.out]; rfl))
                    go_wp2_with (first | (go_at_call 64; refine hL.mono ?_; rintro e w6 ⟨rfl, hb6⟩; obtain ⟨⟨j0, j1, j2, j3⟩, j4, j5⟩ := hcells w6 hb6) | (go_at_call 65; refine (hC _ hb6).mono ?_; rintro e w7 ⟨rfl, hb7⟩))
                    go_ret
                    exact ⟨by rw [HE.out]; rfl, (hbW4.trans (hb6.mono hbW4.size)).trans (hb7.mono (Nat.le_trans hbW4.size hb6.size))⟩
                  | true =>
                    have HE := hid (HT.out (by rw [HFR.out]; rfl))
                    go_wp2_with (first | (go_at_call 64; refine hL.mono ?_; rintro e w6 ⟨rfl, hb6⟩; obtain ⟨⟨j0, j1, j2, j3⟩, j4, j5⟩ := hcells w6 hb6) | (go_at_call 65; refine (hC _ hb6).mono ?_; rintro e w7 ⟨rfl, hb7⟩))
                    exact ⟨⟨k + 1, by omega, by go_num, HE, (hbR4.trans (hb6.mono hbR4.size)).trans (hb7.mono (Nat.le_trans hbR4.size hb6.size))⟩, by simp [intOf]; omega⟩
              · have HE : Hid (s.right = true) := hid (by
                  rw [HA.out]
                  exact List.all_eq_true.2 fun z hz => by
                    obtain ⟨i, hi, rfl⟩ := List.getElem_of_mem hz
                    exact hr.out i hi (by have := HF.out; omega))
                go_wp2_with fail
                go_ret
                exact ⟨by rw [HE.out]; rfl, hbw⟩
      · have HE : Hid (s.right = false) := hid (by rw [HR.out]; simp [d2])
        go_enter Tryz.func44, Tryz.ntmps44
        go_wp2_with fail
        go_ret
        exact ⟨by rw [HE.out]; rfl, by rw [← hW2]; exact hb2⟩
    · have HE : Hid (s.right = false) := hid (by rw [HR.out]; simp [d1])
      have d1' : (nf : Int) < 1 := by omega
      go_enter Tryz.func44, Tryz.ntmps44
      go_wp2_with fail
      go_ret
      exact ⟨by rw [HE.out]; rfl, by rw [← hW2]; exact hb2⟩
  · have HE : Hid (s.right = false) := hid (by rw [HR.out]; simp [d0])
    go_enter Tryz.func44, Tryz.ntmps44
    go_wp2_with fail
    go_ret
    exact ⟨by rw [HE.out]; rfl, by rw [← hW2]; exact hb2⟩
end Go.Proofs.YtbjipcpoiiegkaaGreatDoor
namespace Go.Proofs.YtbjipcpoiiegkaaGreatDoor
open Go.RowKit
theorem oth_alloc {b : Nat} {w : World} (o : Obj) {w' : World} (h : Oth b (w.alloc o) w') : Oth b w w' := fun k x hk h1 h2 => h k x ((Below.heap_alloc w o k (lt_of_block hk)).trans hk) h1 h2
theorem put_one (B b : Nat) (bs x : List UInt8) (w : World) (hB : Bl B b bs w) (hBw : B ≤ w.heap.size) (hx : x.length ≤ 100000) (hbs : bs.length ≤ 1000000) :
    Calls Tryz.prog 46 #[.pointer (some ⟨b, 0, none⟩), .slice (some ⟨w.heap.size, 0, none⟩) 1 1] (w.alloc (.cells #[.string ⟨x.toArray⟩] 9)) fun e w' => e = .returned (.tuple #[]) ∧ Bl B b (bs ++ (x ++ [10])) w' ∧ Below B w w' ∧ Oth b w w' := by
  have hc := heap_alloc_new w (.cells #[.string ⟨x.toArray⟩] 9)
  have ha := (Below.refl _ w).alloc (Nat.le_refl _) (.cells #[.string ⟨x.toArray⟩] 9)
  have hj : Lib.join [x] [32] = x := by simp [Lib.join]
  have h := putLine_any B b bs w.heap.size 1 1 [x] rfl _ (hB.below ha) (Nat.le_trans hBw ha.size) (by
    intro j hj
    rw [Lib.cell_of_heap hc j]
    rcases j with _ | j
    · rfl
    · simp at hj) (lt_of_block hc) (by omega) (by omega) (by rw [hj]; omega) (by omega)
  rw [hj] at h
  refine h.mono ?_
  rintro e w' ⟨rfl, h1, h2, h3⟩
  exact ⟨rfl, by rw [← List.append_assoc]; exact h1, (ha.mono hBw).trans h2, oth_alloc _ h3⟩
theorem put_two (B b : Nat) (bs y x : List UInt8) (w : World) (hB : Bl B b bs w) (hBw : B ≤ w.heap.size) (hy : y.length ≤ 100000) (hx : x.length ≤ 100000) (hbs : bs.length ≤ 1000000) :
    Calls Tryz.prog 46 #[.pointer (some ⟨b, 0, none⟩), .slice (some ⟨w.heap.size, 0, none⟩) 2 2] (w.alloc (.cells #[.string ⟨y.toArray⟩, .string ⟨x.toArray⟩] 9)) fun e w' => e = .returned (.tuple #[]) ∧ Bl B b (bs ++ (y ++ 32 :: x ++ [10])) w' ∧ Below B w w' ∧ Oth b w w' := by
  have hc := heap_alloc_new w (.cells #[.string ⟨y.toArray⟩, .string ⟨x.toArray⟩] 9)
  have ha := (Below.refl _ w).alloc (Nat.le_refl _) (.cells #[.string ⟨y.toArray⟩, .string ⟨x.toArray⟩] 9)
  have h := putLine_any B b bs w.heap.size 2 2 [y, x] rfl _ (hB.below ha) (Nat.le_trans hBw ha.size) (by
    intro j hj
    rw [Lib.cell_of_heap hc j]
    rcases j with _ | _ | j
    · rfl
    · rfl
    · simp at hj; omega) (lt_of_block hc) (by omega) (by omega) (by rw [join_pair]; simp; omega) (by omega)
  rw [join_pair] at h
  refine h.mono ?_
  rintro e w' ⟨rfl, h1, h2, h3⟩
  exact ⟨rfl, by rw [← List.append_assoc]; exact h1, (ha.mono hBw).trans h2, oth_alloc _ h3⟩
/-- The lines of a constant, an instruction, a function; a script's text. -/
def constT (c : List UInt8) : List UInt8 := [99, 111, 110, 115, 116] ++ 32 :: hexWord c ++ [10]
def lineT (x : Int × Int) : List UInt8 := lineS x ++ [10]
def fnT (f : Fn) : List UInt8 := headS f ++ [10] ++ f.code.flatMap lineT
def printT (s : Scr) : List UInt8 := s.consts.flatMap constT ++ s.funcs.flatMap fnT
def printS (s : Scr) : List UInt8 := if s.right = true then printT s else []
theorem flat_le {α : Type} {g : α → List UInt8} {M : Nat} : ∀ {l : List α}, (∀ x ∈ l, (g x).length ≤ M) → (l.flatMap g).length ≤ l.length * M
  | [], _ => by simp
  | a :: r, h => by
    have h1 := h a (by simp)
    have h2 := flat_le (l := r) fun x hx => h x (List.mem_cons_of_mem _ hx)
    simp only [List.flatMap_cons, List.length_append, List.length_cons, Nat.succ_mul]
    omega
theorem flat_snoc {α : Type} (g : α → List UInt8) (l : List α) (k : Nat) (h : k < l.length) : (l.take (k + 1)).flatMap g = (l.take k).flatMap g ++ g l[k] := by
  rw [List.take_add_one, List.getElem?_eq_getElem h, List.flatMap_append]
  simp
structure SmallF (f : Fn) : Prop where
  p : f.p.length ≤ 8
  r : f.r.length ≤ 8
  l : f.l.length ≤ 16
  c : f.code.length ≤ 256
  x : ∀ x ∈ f.code, -9223372036854775808 ≤ x.2 ∧ x.2 ≤ 9223372036854775807
structure Small (s : Scr) : Prop where
  c : s.consts.length ≤ 32
  f : s.funcs.length ≤ 16
  cs : ∀ c ∈ s.consts, c.length ≤ 256
  fs : ∀ f ∈ s.funcs, SmallF f
theorem ins_range {nc nf sl : Nat} {x : Int × Int} (h1 : nc ≤ 32) (h2 : nf ≤ 16) (h3 : sl ≤ 16) (h : insOk nc nf sl x = true) : -9223372036854775808 ≤ x.2 ∧ x.2 ≤ 9223372036854775807 := by
  simp only [insOk, Bool.and_eq_true, decide_eq_true_eq] at h
  obtain ⟨⟨⟨_, _⟩, ha⟩, hb⟩ := h
  revert ha hb
  unfold boundsN
  repeat' split
  all_goals (intro ha hb; simp only at ha hb; omega)
theorem small_of {s : Scr} (h : s.right = true) : Small s := by
  simp only [Scr.right, Bool.and_eq_true, decide_eq_true_eq, List.all_eq_true] at h
  obtain ⟨⟨⟨⟨h1, _⟩, h2⟩, h3⟩, h4⟩ := h
  refine ⟨h1, h2, fun c hc => h3 c hc, fun f hf => ?_⟩
  have := h4 f hf
  simp only [Fn.right, Fn.lists, Bool.and_eq_true, decide_eq_true_eq, List.all_eq_true] at this
  obtain ⟨⟨⟨⟨⟨a1, a2⟩, a3⟩, a4⟩, _⟩, a5⟩ := this
  exact ⟨a1, a2, by omega, a4, fun x hx => ins_range h1 h2 a3 (a5 x hx)⟩
theorem hexWord_len (c : List UInt8) : (hexWord c).length = 2 * c.length + 3 := by
  have := hex_length c
  simp only [hexWord, List.length_append, List.length_cons, List.length_nil]
  omega
theorem constT_le {c : List UInt8} (h : c.length ≤ 256) : (constT c).length ≤ 600 := by simp [constT, hexWord_len]; omega
theorem lineT_le {x : Int × Int} (h : -9223372036854775808 ≤ x.2 ∧ x.2 ≤ 9223372036854775807) : (lineT x).length ≤ 43 := by
  have := lineS_len x h.1 h.2
  simp [lineT]; omega
theorem headS_le {f : Fn} (h : SmallF f) : (headS f).length ≤ 300 := by
  have h0 := rowW_len f.p
  have h1 := rowW_len f.r
  have h2 := rowW_len f.l
  have := h.p; have := h.r; have := h.l
  unfold headS
  split
  · simp [headW]; omega
  · simp
theorem fnT_le {f : Fn} (h : SmallF f) : (fnT f).length ≤ 12000 := by
  have h0 := headS_le h
  have h1 := flat_le (l := f.code) (g := lineT) (M := 43) fun x hx => lineT_le (h.x x hx)
  have := h.c
  simp only [fnT, List.length_append, List.length_cons, List.length_nil]
  omega
theorem print_text {c : List UInt8} (h : c.length ≤ 256) : printOf [⟨2, 0, c⟩] = hexWord c := by simp [printOf, printList, Lib.join, Val.right, wordOf, h]
end Go.Proofs.YtbjipcpoiiegkaaGreatDoor
namespace Go.Proofs.YtbjipcpoiiegkaaGreatDoor
open Go.RowKit Go.Shelf
attribute [local go_sem high] eq_val eq_val0
/-- The bytes whose digits these are. -/
def unhex : List UInt8 → Option (List UInt8)
  | [] => some []
  | [_] => none
  | a :: b :: r => if Lib.indexByte hexDigits a < 0 ∨ Lib.indexByte hexDigits b < 0 then none else (unhex r).map (UInt8.ofNat (16 * (Lib.indexByte hexDigits a).toNat + (Lib.indexByte hexDigits b).toNat) :: ·)
/-- What readBytes reads. -/
def readB (s : List UInt8) : Option Val := if Lib.hasSuffix s [39] && (Lib.trimSuffix s [39]).length % 2 == 0 then (unhex (Lib.trimSuffix s [39])).map (⟨2, 0, ·⟩) else none

def ReadEnd (r : Option Val) (w : World) (e : Ending) (w' : World) : Prop := e = .returned (.tuple #[(r.getD ⟨0, 0, []⟩).v, .bool r.isSome]) ∧ Below w.heap.size w w'
theorem results_mixed {fn : Func} {t u : Tmp} {ty : TypeId} (h : fn.results = #[.cell t ty, .tmp u]) (tmps : Array Value) (P : Program) (w : World) (a : Addr) (v : Value) (ha : tmps[t]?.getD undef = .pointer (some a)) (hl : (loadVar ty a).run P w = .ok v w) :
    (results fn tmps).run P w = .ok (.tuple #[v, tmps[u]?.getD undef]) w := by
  simp [results, h, ha, asAddr, hl]
theorem ret_read {fn : Func} {R : Ending → World → Prop} {a : Act} {t u : Tmp} {w : World} {b : Nat} {x : Val} {ok : Bool} (h : fn.results = #[.cell t 54, .tmp u]) (ha : a.tmps[t]?.getD undef = .pointer (some ⟨b, 0, none⟩)) (hd : a.defers = []) (hu : a.tmps[u]?.getD undef = .bool ok) (hv : ValAt w b x) (hR : R (.returned (.tuple #[x.v, .bool ok])) w) : bodyPost Tryz.prog fn R .ret a w :=
  bodyPost_ret (by rw [results_mixed h _ _ _ _ _ ha (load_val hv), hu]) hd hR

/-- The result's box, still empty. -/
def Boxed3 (w : World) (b : Nat) : Prop := w.heap[b]? = some (Val.box ⟨0, 0, []⟩)
end Go.Proofs.YtbjipcpoiiegkaaGreatDoor
