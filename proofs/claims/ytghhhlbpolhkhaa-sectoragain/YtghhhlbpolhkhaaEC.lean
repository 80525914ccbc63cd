/- Layer 15: files and disks in memory; the smallest functions. -/
import Derived.Test.YtghhhlbpolhkhaaEB
namespace Go.Proofs.Ytghhhlbpolhkhaa
open Go.RowKit
/-- Of what was there nothing turns but blocks of S. -/
structure Kt (S : Nat → Prop) (w w' : World) : Prop where
  os : w'.os = w.os
  tape : w'.tape = w.tape
  output : w'.output = w.output
  size : w.heap.size ≤ w'.heap.size
  block : ∀ i < w.heap.size, ¬ S i → w'.heap[i]? = w.heap[i]?
theorem Kt.refl (S : Nat → Prop) (w : World) : Kt S w w := ⟨rfl, rfl, rfl, Nat.le_refl _, fun _ _ _ => rfl⟩
theorem Kt.mono {S R : Nat → Prop} {w w' : World} (h : Kt S w w') (k : ∀ i < w.heap.size, S i → R i) : Kt R w w' := ⟨h.os, h.tape, h.output, h.size, fun i hi hn => h.block i hi fun x => hn (k i hi x)⟩
theorem Kt.trans {S R : Nat → Prop} {a b c : World} (h : Kt S a b) (k : Kt R b c) (m : ∀ i < a.heap.size, R i → S i) : Kt S a c :=
  ⟨k.os.trans h.os, k.tape.trans h.tape, k.output.trans h.output, Nat.le_trans h.size k.size, fun i hi hn => (k.block i (Nat.lt_of_lt_of_le hi h.size) fun x => hn (m i hi x)).trans (h.block i hi hn)⟩
theorem Kt.grown {g : Nat} {w w' : World} {S : Nat → Prop} (h : w.grownBy w' (some g)) (hs : S g) : Kt S w w' := ⟨h.os, h.tape, h.output, h.size, fun i hi hn => h.block i hi fun e => hn (by injection e with e; exact e ▸ hs)⟩
theorem Kt.step {v v' : Value} {w w' : World} {S : Nat → Prop} (h : Step w v w' v') (hs : ∀ g, v.ownBlock = some g → S g) : Kt S w w' := ⟨h.1.os, h.1.tape, h.1.output, h.1.size, fun i hi hn => h.1.block i hi fun e => hn (hs i e.symm)⟩
theorem Kt.below {w w' : World} {S : Nat → Prop} (h : Below w.heap.size w w') : Kt S w w' := ⟨h.os, h.tape, h.output, h.size, fun i hi _ => h.block i hi⟩
theorem Kt.drewN {S : Nat → Prop} {w w' : World} (h : Kt S w w') (M : Nat) : Kt S w (w'.drewN M) := ⟨h.os, h.tape, h.output, h.size, h.block⟩
theorem Kt.alloc {S : Nat → Prop} {w w' : World} (h : Kt S w w') (o : Obj) : Kt S w (w'.alloc o) := h.trans (Kt.below (S := S) ((Below.refl _ w').alloc (Nat.le_refl _) o)) fun _ _ x => x
theorem Kt.set {S : Nat → Prop} {w w' : World} (h : Kt S w w') {b j : Nat} {v : Value} (hb : b < w.heap.size → S b) : Kt S w (w'.setCell ⟨b, j, none⟩ v) :=
  ⟨h.os, h.tape, h.output, by rw [World.size_setCell]; exact h.size, fun i hi hn => (Below.heap_setCell _ _ _ _ (fun e => hn (by subst e; exact hb hi))).trans (h.block i hi hn)⟩
theorem Kt.low {S : Nat → Prop} {w w' : World} {B : Nat} (h : Kt S w w') (hB : B ≤ w.heap.size) (hs : ∀ i < B, ¬ S i) : Below B w w' := ⟨h.os, h.tape, h.output, h.size, fun i hi => h.block i (by omega) (hs i hi)⟩
theorem heap_ltb {w : World} {k : Nat} {o : Obj} (h : w.heap[k]? = some o) : k < w.heap.size := (Array.getElem?_eq_some_iff.1 h).1
/-- Where a file lies. -/
structure Fg where
  fb : Nat
  sl : Value
  mp : Option Nat
def Fg.has (g : Fg) (k : Nat) : Prop := k = g.fb ∨ g.sl.ownBlock = some k ∨ g.mp = some k
/-- The file lies there. -/
structure FlAt (w : World) (g : Fg) (f : Fl) : Prop where
  box : w.heap[g.fb]? = some (.cells #[sv f.name, g.sl, .map g.mp] 64 (0, 0))
  row : w.ownsRow 0 48 2 g.sl f.cs.length (secCs f.sure)
  map : MapS w g.mp f.cs.length f.wr
  len : f.cs.length ≤ 65536
  a1 : g.sl.ownBlock ≠ some g.fb
  a2 : g.mp ≠ some g.fb
  a3 : ∀ k, g.sl.ownBlock = some k → g.mp ≠ some k
section
variable {w : World} {g : Fg} {f : Fl}
theorem FlAt.lts (h : FlAt w g f) : ∀ k, g.has k → k < w.heap.size := by
  intro k hk
  rcases hk with rfl | e | e
  · exact heap_ltb h.box
  · exact (h.row.lt k e).2
  · exact h.map.lt k e
theorem row_keep {w w' : World} {base n size : Nat} {e : TypeId} {v : Value} {xs : List Value} (h : w.ownsRow base e size v n xs) (hb : ∀ k, v.ownBlock = some k → w'.heap[k]? = w.heap[k]?) : w'.ownsRow base e size v n xs := by
  refine ⟨h.1, ?_⟩
  rcases h.2 with h2 | ⟨g, cap, cur, rfl, hg, hh, r⟩
  · exact .inl h2
  · exact .inr ⟨g, cap, cur, rfl, hg, (hb g rfl).trans hh, r⟩
theorem FlAt.keep {w' : World} (h : FlAt w g f) (e : ∀ k, g.has k → w'.heap[k]? = w.heap[k]?) : FlAt w' g f :=
  ⟨(e _ (.inl rfl)).trans h.box, row_keep h.row fun k hk => e k (.inr (.inl hk)), h.map.keep fun b hb => e b (.inr (.inr hb)), h.len, h.a1, h.a2, h.a3⟩
theorem FlAt.kt {w' : World} {S : Nat → Prop} (h : FlAt w g f) (k : Kt S w w') (d : ∀ i, g.has i → ¬ S i) : FlAt w' g f := h.keep fun i hi => k.block i (h.lts i hi) (d i hi)
theorem FlAt.below {w' : World} (h : FlAt w g f) (k : Below w.heap.size w w') : FlAt w' g f := h.keep fun i hi => k.block i (h.lts i hi)
theorem FlAt.c0 (h : FlAt w g f) : w.cell? ⟨g.fb, 0, none⟩ = some (sv f.name) := Lib.cell_of_heap h.box 0
theorem FlAt.c1 (h : FlAt w g f) : w.cell? ⟨g.fb, 1, none⟩ = some g.sl := Lib.cell_of_heap h.box 1
theorem FlAt.c2 (h : FlAt w g f) : w.cell? ⟨g.fb, 2, none⟩ = some (.map g.mp) := Lib.cell_of_heap h.box 2
theorem FlAt.fr (h : FlAt w g f) (j : Nat) : w.frozen? ⟨g.fb, j, none⟩ = false := Lib.frozen_of_heap h.box j
theorem FlAt.form (h : FlAt w g f) : ∃ a c, g.sl = .slice a f.cs.length c ∧ f.cs.length ≤ c ∧ c ≤ maxLen := by
  obtain ⟨a, c, e, h1, h2, _⟩ := row_form h.row
  exact ⟨a, c, e, h1, h2⟩
end
theorem count15_any (w : World) (g : Fg) (f : Fl) (h : FlAt w g f) : Calls Try.prog 24 #[.pointer (some ⟨g.fb, 1, none⟩)] w fun e w' => e = .returned (.int .i64 (f.cs.length : Nat)) ∧ w' = w := by
  have c1 := h.c1
  obtain ⟨a, c, e, h1, h2⟩ := h.form
  have hl := h.len
  rw [e] at c1
  clear h e
  go_enter Try.func24, Try.ntmps24
  go_wp2_with fail
  go_ret
  exact ⟨rfl, rfl⟩
theorem tmod3 (n : Int) : (n.tmod 3 + 3).tmod 3 = n % 3 := by
  have h := Int.tmod_add_mul_tdiv n 3
  have a1 : -3 < n.tmod 3 := by have := Int.lt_tmod_of_pos n (b := 3) (by decide); omega
  have a2 : n.tmod 3 < 3 := Int.tmod_lt_of_pos n (by decide)
  rw [Int.tmod_eq_emod_of_nonneg (by omega)]
  omega
theorem fate15_any (n : Int) (w : World) : Calls Try.prog 37 #[.int .i64 n] w fun e w' => e = .returned (.int .i64 (fateN n)) ∧ w' = w := by
  have hw : wrap64 (n.tmod 3 + 3) = n.tmod 3 + 3 := by
    have a1 : -3 < n.tmod 3 := by have := Int.lt_tmod_of_pos n (b := 3) (by decide); omega
    have a2 : n.tmod 3 < 3 := Int.tmod_lt_of_pos n (by decide)
    unfold wrap64
    omega
  have H : Hid ((n.tmod 3 + 3).tmod 3 = fateN n) := hidb (tmod3 n)
  go_enter Try.func37, Try.ntmps37
  go_wp2_with fail
  go_ret
  rw [hw, H.out]
  exact ⟨rfl, rfl⟩
def byteB (x : UInt8) : Bool := decide (33 ≤ x.toNat) && decide (x.toNat ≤ 126)
def nameB (b : Bt) : Bool := decide (1 ≤ b.length) && decide (b.length ≤ 16) && b.all byteB
theorem isName_any (b : Bt) (w : World) (hb : b.length ≤ 281474976710656) : Calls Try.prog 28 #[sv b] w fun e w' => e = .returned (.bool (nameB b)) ∧ w' = w := by
  by_cases h1 : b.length < 1
  · have e : nameB b = false := by simp [nameB]; omega
    rw [e]
    go_enter Try.func28, Try.ntmps28
    go_wp2_with fail
    go_ret
    exact ⟨rfl, rfl⟩
  by_cases h2 : 16 < b.length
  · have e : nameB b = false := by simp [nameB]; omega
    rw [e]
    go_enter Try.func28, Try.ntmps28
    go_wp2_with fail
    go_ret
    exact ⟨rfl, rfl⟩
  have e : nameB b = b.all byteB := by simp [nameB]; omega
  rw [e]
  clear e
  obtain ⟨n, hn⟩ : ∃ n, n = b.length := ⟨_, rfl⟩
  go_enter Try.func28, Try.ntmps28
  go_wp2_with fail
  rw [← hn]
  have HN := hidb hn
  have HA : Hid (∀ i, i ≤ n → (∀ j (h : j < b.length), j < i → byteB b[j] = true) → i = n → b.all byteB = true) := hidb fun i hi h e => List.all_eq_true.2 fun x hx => by
    obtain ⟨j, hj, rfl⟩ := List.getElem_of_mem hx
    exact h j hj (by omega)
  clear hn
  go_loopw [14] (fun iv wr => ∃ i : Nat, iv = .int .i64 i ∧ i ≤ n ∧ wr = w ∧ Hid (∀ j (h : j < b.length), j < i → byteB b[j] = true)) (fun iv _ => n - (intOf iv).toNat)
  case atStart => exact ⟨0, rfl, by omega, rfl, hidb fun j _ h => absurd h (Nat.not_lt_zero _)⟩
  case round =>
    obtain ⟨i, rfl, hi, rfl, HI⟩ := hrel
    by_cases hlt : i < n
    · have hl : i < b.length := by rw [← HN.out]; exact hlt
      have HF : Hid (byteB b[i] = false → b.all byteB = false) := hidb fun h => by
        rw [List.all_eq_false]
        exact ⟨b[i], List.getElem_mem hl, by simp [h]⟩
      have HX : Hid ((⟨b.toArray⟩ : ByteArray)[i] = b[i]) := hidb rfl
      go_wp2_with fail
      · rename_i x1 x2
        go_ret
        rw [HF.out (by rw [HX.out] at x1 x2; unfold byteB; simp; omega)]
        exact ⟨rfl, rfl⟩
      · rename_i x1 x2
        refine ⟨⟨i + 1, by go_num, by omega, by first | rfl | trivial, hidb fun j hj hji => ?_⟩, by simp [intOf]; omega⟩
        by_cases e : j < i
        · exact HI.out j hj e
        · obtain rfl : j = i := by omega
          rw [HX.out] at x2
          unfold byteB; simp; omega
      · rename_i x1
        go_ret
        rw [HF.out (by rw [HX.out] at x1; unfold byteB; simp; omega)]
        exact ⟨rfl, rfl⟩
    · have HE := hidb (HA.out i hi HI.out (by omega))
      go_wp2_with fail
      go_ret
      rw [HE.out]
      exact ⟨rfl, rfl⟩
end Go.Proofs.Ytghhhlbpolhkhaa
