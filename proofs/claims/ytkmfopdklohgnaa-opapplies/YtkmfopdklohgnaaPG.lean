/- The document's Apply. -/
import Derived.Test.YtkmfopdklohgnaaPF
import Derived.Test.YtkmfopdklohgnaaPE
import Derived.Test.YtkmfopdklohgnaaPA
import Derived.Test.YtkmfopdklohgnaaOU
import Derived.Test.YtkmfopdklohgnaaOJ
namespace Go.Proofs.Ytkmfopdklohgnaa
open Go.RowKit
attribute [local go_sem high] eq_val eq_val0
theorem shape0 {L : List Val} (h : fitsB L [] = true) : L = [] := by
  obtain ⟨h1, _⟩ := fitsB_iff.1 h
  simpa using h1
theorem shape1 {L : List Val} {s : Int} (h : fitsB L [s] = true) : ∃ x, L = [x] ∧ x.right = true ∧ x.t = s := by
  obtain ⟨h1, h2⟩ := fitsB_iff.1 h
  match L, h1 with
  | [x], h1 =>
    simp at h1
    exact ⟨x, rfl, h2 x (by simp), h1⟩
theorem shape2 {L : List Val} {s t : Int} (h : fitsB L [s, t] = true) : ∃ x y, L = [x, y] ∧ (x.right = true ∧ y.right = true) ∧ x.t = s ∧ y.t = t := by
  obtain ⟨h1, h2⟩ := fitsB_iff.1 h
  match L, h1 with
  | [x, y], h1 =>
    simp at h1
    exact ⟨x, y, rfl, ⟨h2 x (by simp), h2 y (by simp)⟩, h1⟩
theorem shape3 {L : List Val} {s t u : Int} (h : fitsB L [s, t, u] = true) : ∃ x y z, L = [x, y, z] ∧ (x.right = true ∧ y.right = true ∧ z.right = true) ∧ x.t = s ∧ y.t = t ∧ z.t = u := by
  obtain ⟨h1, h2⟩ := fitsB_iff.1 h
  match L, h1 with
  | [x, y, z], h1 =>
    simp at h1
    exact ⟨x, y, z, rfl, ⟨h2 x (by simp), h2 y (by simp), h2 z (by simp)⟩, h1⟩
theorem same_holds (a b : List UInt8) : (a == b) = holdsV 36 (cmpV ⟨2, 0, a⟩ ⟨2, 0, b⟩) := by
  rw [cmp_bytes]
  by_cases e : a = b
  · subst e; simp [holdsV]
  · rw [if_neg e]
    have : (a == b) = false := by simp [e]
    rw [this]
    cases Op.bytesLess a b <;> rfl
theorem less_holds (a b : List UInt8) : Op.bytesLess a b = holdsV 37 (cmpV ⟨2, 0, a⟩ ⟨2, 0, b⟩) := by
  rw [cmp_bytes]
  by_cases e : a = b
  · subst e; simp [holdsV, less_irrefl]
  · rw [if_neg e]
    cases Op.bytesLess a b <;> rfl
def Told (n : Int) (L : List Val) (w : World) (e : Ending) (w' : World) : Prop := ∃ v, Answers v (faultV n L) w e w' ∧ (faultV n L = 0 → v = ansV n L)
theorem rans_11 (a : Option Addr) (c : Nat) (L : List Val) (w : World) (hV : Vs w a L) (hf : fitsB L (inT 11) = true) (hR : ∀ x ∈ L, -9223372036854775808 ≤ x.n ∧ x.n ≤ 9223372036854775807) : Calls Try.prog 18 #[.int .i64 11, .slice a L.length c] w (Told 11 L w) := by
  obtain ⟨x, y, rfl, ⟨hx, hy⟩, tx, ty⟩ := shape2 hf
  obtain ⟨bk, off, rfl, ⟨c00, c01, c02⟩, C1, _⟩ := hV.cells (by simp)
  obtain ⟨c10, c11, c12⟩ := C1 (by simp)
  have l0 := World.block_lt_of_cell? _ _ c00
  have hrx := hR x (by simp)
  refine (ra_num 11 x.n y.n (calcV 11 x.n y.n) 0 (nameT 11) bk off c w c01 c11 (rname_any 11) (fun W => rnumbers_any 11 x.n y.n (by simp [CalcOp]) hrx.1 hrx.2 W _ rfl) rfl rfl (by decide) (by decide) (by decide) (by decide)).mono ?_
  intro e w' h
  exact ⟨_, h, fun _ => rfl⟩
theorem rans_12 (a : Option Addr) (c : Nat) (L : List Val) (w : World) (hV : Vs w a L) (hf : fitsB L (inT 12) = true) (hR : ∀ x ∈ L, -9223372036854775808 ≤ x.n ∧ x.n ≤ 9223372036854775807) : Calls Try.prog 18 #[.int .i64 12, .slice a L.length c] w (Told 12 L w) := by
  obtain ⟨x, y, rfl, ⟨hx, hy⟩, tx, ty⟩ := shape2 hf
  obtain ⟨bk, off, rfl, ⟨c00, c01, c02⟩, C1, _⟩ := hV.cells (by simp)
  obtain ⟨c10, c11, c12⟩ := C1 (by simp)
  have l0 := World.block_lt_of_cell? _ _ c00
  have hrx := hR x (by simp)
  refine (ra_num 12 x.n y.n (calcV 12 x.n y.n) 0 (nameT 12) bk off c w c01 c11 (rname_any 12) (fun W => rnumbers_any 12 x.n y.n (by simp [CalcOp]) hrx.1 hrx.2 W _ rfl) rfl rfl (by decide) (by decide) (by decide) (by decide)).mono ?_
  intro e w' h
  exact ⟨_, h, fun _ => rfl⟩
theorem rans_13 (a : Option Addr) (c : Nat) (L : List Val) (w : World) (hV : Vs w a L) (hf : fitsB L (inT 13) = true) (hR : ∀ x ∈ L, -9223372036854775808 ≤ x.n ∧ x.n ≤ 9223372036854775807) : Calls Try.prog 18 #[.int .i64 13, .slice a L.length c] w (Told 13 L w) := by
  obtain ⟨x, y, rfl, ⟨hx, hy⟩, tx, ty⟩ := shape2 hf
  obtain ⟨bk, off, rfl, ⟨c00, c01, c02⟩, C1, _⟩ := hV.cells (by simp)
  obtain ⟨c10, c11, c12⟩ := C1 (by simp)
  have l0 := World.block_lt_of_cell? _ _ c00
  have hrx := hR x (by simp)
  refine (ra_num 13 x.n y.n (calcV 13 x.n y.n) 0 (nameT 13) bk off c w c01 c11 (rname_any 13) (fun W => rnumbers_any 13 x.n y.n (by simp [CalcOp]) hrx.1 hrx.2 W _ rfl) rfl rfl (by decide) (by decide) (by decide) (by decide)).mono ?_
  intro e w' h
  exact ⟨_, h, fun _ => rfl⟩
theorem rans_17 (a : Option Addr) (c : Nat) (L : List Val) (w : World) (hV : Vs w a L) (hf : fitsB L (inT 17) = true) (hR : ∀ x ∈ L, -9223372036854775808 ≤ x.n ∧ x.n ≤ 9223372036854775807) : Calls Try.prog 18 #[.int .i64 17, .slice a L.length c] w (Told 17 L w) := by
  obtain ⟨x, y, rfl, ⟨hx, hy⟩, tx, ty⟩ := shape2 hf
  obtain ⟨bk, off, rfl, ⟨c00, c01, c02⟩, C1, _⟩ := hV.cells (by simp)
  obtain ⟨c10, c11, c12⟩ := C1 (by simp)
  have l0 := World.block_lt_of_cell? _ _ c00
  have hrx := hR x (by simp)
  refine (ra_num 17 x.n y.n (calcV 17 x.n y.n) 0 (nameT 17) bk off c w c01 c11 (rname_any 17) (fun W => rnumbers_any 17 x.n y.n (by simp [CalcOp]) hrx.1 hrx.2 W _ rfl) rfl rfl (by decide) (by decide) (by decide) (by decide)).mono ?_
  intro e w' h
  exact ⟨_, h, fun _ => rfl⟩
theorem rans_18 (a : Option Addr) (c : Nat) (L : List Val) (w : World) (hV : Vs w a L) (hf : fitsB L (inT 18) = true) (hR : ∀ x ∈ L, -9223372036854775808 ≤ x.n ∧ x.n ≤ 9223372036854775807) : Calls Try.prog 18 #[.int .i64 18, .slice a L.length c] w (Told 18 L w) := by
  obtain ⟨x, y, rfl, ⟨hx, hy⟩, tx, ty⟩ := shape2 hf
  obtain ⟨bk, off, rfl, ⟨c00, c01, c02⟩, C1, _⟩ := hV.cells (by simp)
  obtain ⟨c10, c11, c12⟩ := C1 (by simp)
  have l0 := World.block_lt_of_cell? _ _ c00
  have hrx := hR x (by simp)
  refine (ra_num 18 x.n y.n (calcV 18 x.n y.n) 0 (nameT 18) bk off c w c01 c11 (rname_any 18) (fun W => rnumbers_any 18 x.n y.n (by simp [CalcOp]) hrx.1 hrx.2 W _ rfl) rfl rfl (by decide) (by decide) (by decide) (by decide)).mono ?_
  intro e w' h
  exact ⟨_, h, fun _ => rfl⟩
theorem rans_19 (a : Option Addr) (c : Nat) (L : List Val) (w : World) (hV : Vs w a L) (hf : fitsB L (inT 19) = true) (hR : ∀ x ∈ L, -9223372036854775808 ≤ x.n ∧ x.n ≤ 9223372036854775807) : Calls Try.prog 18 #[.int .i64 19, .slice a L.length c] w (Told 19 L w) := by
  obtain ⟨x, y, rfl, ⟨hx, hy⟩, tx, ty⟩ := shape2 hf
  obtain ⟨bk, off, rfl, ⟨c00, c01, c02⟩, C1, _⟩ := hV.cells (by simp)
  obtain ⟨c10, c11, c12⟩ := C1 (by simp)
  have l0 := World.block_lt_of_cell? _ _ c00
  have hrx := hR x (by simp)
  refine (ra_num 19 x.n y.n (calcV 19 x.n y.n) 0 (nameT 19) bk off c w c01 c11 (rname_any 19) (fun W => rnumbers_any 19 x.n y.n (by simp [CalcOp]) hrx.1 hrx.2 W _ rfl) rfl rfl (by decide) (by decide) (by decide) (by decide)).mono ?_
  intro e w' h
  exact ⟨_, h, fun _ => rfl⟩
theorem rans_21 (a : Option Addr) (c : Nat) (L : List Val) (w : World) (hV : Vs w a L) (hf : fitsB L (inT 21) = true) (hR : ∀ x ∈ L, -9223372036854775808 ≤ x.n ∧ x.n ≤ 9223372036854775807) : Calls Try.prog 18 #[.int .i64 21, .slice a L.length c] w (Told 21 L w) := by
  obtain ⟨x, y, rfl, ⟨hx, hy⟩, tx, ty⟩ := shape2 hf
  obtain ⟨bk, off, rfl, ⟨c00, c01, c02⟩, C1, _⟩ := hV.cells (by simp)
  obtain ⟨c10, c11, c12⟩ := C1 (by simp)
  have l0 := World.block_lt_of_cell? _ _ c00
  have hrx := hR x (by simp)
  refine (ra_num 21 x.n y.n (calcV 21 x.n y.n) 0 (nameT 21) bk off c w c01 c11 (rname_any 21) (fun W => rnumbers_any 21 x.n y.n (by simp [CalcOp]) hrx.1 hrx.2 W _ rfl) rfl rfl (by decide) (by decide) (by decide) (by decide)).mono ?_
  intro e w' h
  exact ⟨_, h, fun _ => rfl⟩
theorem rans_22 (a : Option Addr) (c : Nat) (L : List Val) (w : World) (hV : Vs w a L) (hf : fitsB L (inT 22) = true) (hR : ∀ x ∈ L, -9223372036854775808 ≤ x.n ∧ x.n ≤ 9223372036854775807) : Calls Try.prog 18 #[.int .i64 22, .slice a L.length c] w (Told 22 L w) := by
  obtain ⟨x, y, rfl, ⟨hx, hy⟩, tx, ty⟩ := shape2 hf
  obtain ⟨bk, off, rfl, ⟨c00, c01, c02⟩, C1, _⟩ := hV.cells (by simp)
  obtain ⟨c10, c11, c12⟩ := C1 (by simp)
  have l0 := World.block_lt_of_cell? _ _ c00
  have hrx := hR x (by simp)
  refine (ra_num 22 x.n y.n (calcV 22 x.n y.n) 0 (nameT 22) bk off c w c01 c11 (rname_any 22) (fun W => rnumbers_any 22 x.n y.n (by simp [CalcOp]) hrx.1 hrx.2 W _ rfl) rfl rfl (by decide) (by decide) (by decide) (by decide)).mono ?_
  intro e w' h
  exact ⟨_, h, fun _ => rfl⟩
theorem rans_14 (a : Option Addr) (c : Nat) (L : List Val) (w : World) (hV : Vs w a L) (hf : fitsB L (inT 14) = true) (hR : ∀ x ∈ L, -9223372036854775808 ≤ x.n ∧ x.n ≤ 9223372036854775807) : Calls Try.prog 18 #[.int .i64 14, .slice a L.length c] w (Told 14 L w) := by
  obtain ⟨x, y, rfl, ⟨hx, hy⟩, tx, ty⟩ := shape2 hf
  obtain ⟨bk, off, rfl, ⟨c00, c01, c02⟩, C1, _⟩ := hV.cells (by simp)
  obtain ⟨c10, c11, c12⟩ := C1 (by simp)
  have l0 := World.block_lt_of_cell? _ _ c00
  have hrx := hR x (by simp)
  by_cases h0 : y.n = 0
  · have hC := fun W => rnumbers_zero 14 x.n (by simp) W ⟨(nameT 14).toArray⟩ rfl
    have c11' : w.cell? ⟨bk, off + 3 + 1, none⟩ = some (.int .i64 0) := by rw [← h0]; exact c11
    have hf0 : faultV 14 [x, y] = 40 := by show (if y.n = 0 then (40 : Int) else 0) = 40; rw [if_pos h0]
    refine (ra_num 14 x.n 0 0 40 (nameT 14) bk off c w c01 c11' (rname_any 14) hC rfl rfl (by decide) (by decide) (by decide) (by decide)).mono ?_
    intro e w' h
    exact ⟨_, by rw [hf0]; exact h, fun e => by rw [hf0] at e; cases e⟩
  · have hf0 : faultV 14 [x, y] = 0 := by show (if y.n = 0 then (40 : Int) else 0) = 0; rw [if_neg h0]
    refine (ra_num 14 x.n y.n (calcV 14 x.n y.n) 0 (nameT 14) bk off c w c01 c11 (rname_any 14) (fun W => rnumbers_any 14 x.n y.n (by simp [CalcOp, h0]) hrx.1 hrx.2 W _ rfl) rfl rfl (by decide) (by decide) (by decide) (by decide)).mono ?_
    intro e w' h
    exact ⟨_, by rw [hf0]; exact h, fun _ => rfl⟩
theorem rans_15 (a : Option Addr) (c : Nat) (L : List Val) (w : World) (hV : Vs w a L) (hf : fitsB L (inT 15) = true) (hR : ∀ x ∈ L, -9223372036854775808 ≤ x.n ∧ x.n ≤ 9223372036854775807) : Calls Try.prog 18 #[.int .i64 15, .slice a L.length c] w (Told 15 L w) := by
  obtain ⟨x, y, rfl, ⟨hx, hy⟩, tx, ty⟩ := shape2 hf
  obtain ⟨bk, off, rfl, ⟨c00, c01, c02⟩, C1, _⟩ := hV.cells (by simp)
  obtain ⟨c10, c11, c12⟩ := C1 (by simp)
  have l0 := World.block_lt_of_cell? _ _ c00
  have hrx := hR x (by simp)
  by_cases h0 : y.n = 0
  · have hC := fun W => rnumbers_zero 15 x.n (by simp) W ⟨(nameT 15).toArray⟩ rfl
    have c11' : w.cell? ⟨bk, off + 3 + 1, none⟩ = some (.int .i64 0) := by rw [← h0]; exact c11
    have hf0 : faultV 15 [x, y] = 40 := by show (if y.n = 0 then (40 : Int) else 0) = 40; rw [if_pos h0]
    refine (ra_num 15 x.n 0 0 40 (nameT 15) bk off c w c01 c11' (rname_any 15) hC rfl rfl (by decide) (by decide) (by decide) (by decide)).mono ?_
    intro e w' h
    exact ⟨_, by rw [hf0]; exact h, fun e => by rw [hf0] at e; cases e⟩
  · have hf0 : faultV 15 [x, y] = 0 := by show (if y.n = 0 then (40 : Int) else 0) = 0; rw [if_neg h0]
    refine (ra_num 15 x.n y.n (calcV 15 x.n y.n) 0 (nameT 15) bk off c w c01 c11 (rname_any 15) (fun W => rnumbers_any 15 x.n y.n (by simp [CalcOp, h0]) hrx.1 hrx.2 W _ rfl) rfl rfl (by decide) (by decide) (by decide) (by decide)).mono ?_
    intro e w' h
    exact ⟨_, by rw [hf0]; exact h, fun _ => rfl⟩
theorem rans_23 (a : Option Addr) (c : Nat) (L : List Val) (w : World) (hV : Vs w a L) (hf : fitsB L (inT 23) = true) (hR : ∀ x ∈ L, -9223372036854775808 ≤ x.n ∧ x.n ≤ 9223372036854775807) : Calls Try.prog 18 #[.int .i64 23, .slice a L.length c] w (Told 23 L w) := by
  obtain ⟨x, y, rfl, ⟨hx, hy⟩, tx, ty⟩ := shape2 hf
  obtain ⟨bk, off, rfl, ⟨c00, c01, c02⟩, C1, _⟩ := hV.cells (by simp)
  obtain ⟨c10, c11, c12⟩ := C1 (by simp)
  have l0 := World.block_lt_of_cell? _ _ c00
  refine (ra_cmp 23 x.n y.n (holdsV 23 (cmpV ⟨1, x.n, []⟩ ⟨1, y.n, []⟩)) (nameT 23) bk off c w c01 c11 (rname_any 23) (fun W => rcompares_any 23 x.n y.n (by simp) W _ rfl) rfl rfl (by decide) (by decide) (by decide) (by decide)).mono ?_
  intro e w' h
  exact ⟨_, h, fun _ => by show Val.truth (holdsV 23 (cmpV ⟨1, x.n, []⟩ ⟨1, y.n, []⟩)) = Val.truth (holdsV 23 (cmpV x y)); rw [← fit1 hx tx, ← fit1 hy ty]⟩
theorem rans_24 (a : Option Addr) (c : Nat) (L : List Val) (w : World) (hV : Vs w a L) (hf : fitsB L (inT 24) = true) (hR : ∀ x ∈ L, -9223372036854775808 ≤ x.n ∧ x.n ≤ 9223372036854775807) : Calls Try.prog 18 #[.int .i64 24, .slice a L.length c] w (Told 24 L w) := by
  obtain ⟨x, y, rfl, ⟨hx, hy⟩, tx, ty⟩ := shape2 hf
  obtain ⟨bk, off, rfl, ⟨c00, c01, c02⟩, C1, _⟩ := hV.cells (by simp)
  obtain ⟨c10, c11, c12⟩ := C1 (by simp)
  have l0 := World.block_lt_of_cell? _ _ c00
  refine (ra_cmp 24 x.n y.n (holdsV 24 (cmpV ⟨1, x.n, []⟩ ⟨1, y.n, []⟩)) (nameT 24) bk off c w c01 c11 (rname_any 24) (fun W => rcompares_any 24 x.n y.n (by simp) W _ rfl) rfl rfl (by decide) (by decide) (by decide) (by decide)).mono ?_
  intro e w' h
  exact ⟨_, h, fun _ => by show Val.truth (holdsV 24 (cmpV ⟨1, x.n, []⟩ ⟨1, y.n, []⟩)) = Val.truth (holdsV 24 (cmpV x y)); rw [← fit1 hx tx, ← fit1 hy ty]⟩
theorem rans_25 (a : Option Addr) (c : Nat) (L : List Val) (w : World) (hV : Vs w a L) (hf : fitsB L (inT 25) = true) (hR : ∀ x ∈ L, -9223372036854775808 ≤ x.n ∧ x.n ≤ 9223372036854775807) : Calls Try.prog 18 #[.int .i64 25, .slice a L.length c] w (Told 25 L w) := by
  obtain ⟨x, y, rfl, ⟨hx, hy⟩, tx, ty⟩ := shape2 hf
  obtain ⟨bk, off, rfl, ⟨c00, c01, c02⟩, C1, _⟩ := hV.cells (by simp)
  obtain ⟨c10, c11, c12⟩ := C1 (by simp)
  have l0 := World.block_lt_of_cell? _ _ c00
  refine (ra_cmp 25 x.n y.n (holdsV 25 (cmpV ⟨1, x.n, []⟩ ⟨1, y.n, []⟩)) (nameT 25) bk off c w c01 c11 (rname_any 25) (fun W => rcompares_any 25 x.n y.n (by simp) W _ rfl) rfl rfl (by decide) (by decide) (by decide) (by decide)).mono ?_
  intro e w' h
  exact ⟨_, h, fun _ => by show Val.truth (holdsV 25 (cmpV ⟨1, x.n, []⟩ ⟨1, y.n, []⟩)) = Val.truth (holdsV 25 (cmpV x y)); rw [← fit1 hx tx, ← fit1 hy ty]⟩
theorem rans_26 (a : Option Addr) (c : Nat) (L : List Val) (w : World) (hV : Vs w a L) (hf : fitsB L (inT 26) = true) (hR : ∀ x ∈ L, -9223372036854775808 ≤ x.n ∧ x.n ≤ 9223372036854775807) : Calls Try.prog 18 #[.int .i64 26, .slice a L.length c] w (Told 26 L w) := by
  obtain ⟨x, y, rfl, ⟨hx, hy⟩, tx, ty⟩ := shape2 hf
  obtain ⟨bk, off, rfl, ⟨c00, c01, c02⟩, C1, _⟩ := hV.cells (by simp)
  obtain ⟨c10, c11, c12⟩ := C1 (by simp)
  have l0 := World.block_lt_of_cell? _ _ c00
  refine (ra_cmp 26 x.n y.n (holdsV 26 (cmpV ⟨1, x.n, []⟩ ⟨1, y.n, []⟩)) (nameT 26) bk off c w c01 c11 (rname_any 26) (fun W => rcompares_any 26 x.n y.n (by simp) W _ rfl) rfl rfl (by decide) (by decide) (by decide) (by decide)).mono ?_
  intro e w' h
  exact ⟨_, h, fun _ => by show Val.truth (holdsV 26 (cmpV ⟨1, x.n, []⟩ ⟨1, y.n, []⟩)) = Val.truth (holdsV 26 (cmpV x y)); rw [← fit1 hx tx, ← fit1 hy ty]⟩
theorem rans_27 (a : Option Addr) (c : Nat) (L : List Val) (w : World) (hV : Vs w a L) (hf : fitsB L (inT 27) = true) (hR : ∀ x ∈ L, -9223372036854775808 ≤ x.n ∧ x.n ≤ 9223372036854775807) : Calls Try.prog 18 #[.int .i64 27, .slice a L.length c] w (Told 27 L w) := by
  obtain ⟨x, y, rfl, ⟨hx, hy⟩, tx, ty⟩ := shape2 hf
  obtain ⟨bk, off, rfl, ⟨c00, c01, c02⟩, C1, _⟩ := hV.cells (by simp)
  obtain ⟨c10, c11, c12⟩ := C1 (by simp)
  have l0 := World.block_lt_of_cell? _ _ c00
  refine (ra_cmp 27 x.n y.n (holdsV 27 (cmpV ⟨1, x.n, []⟩ ⟨1, y.n, []⟩)) (nameT 27) bk off c w c01 c11 (rname_any 27) (fun W => rcompares_any 27 x.n y.n (by simp) W _ rfl) rfl rfl (by decide) (by decide) (by decide) (by decide)).mono ?_
  intro e w' h
  exact ⟨_, h, fun _ => by show Val.truth (holdsV 27 (cmpV ⟨1, x.n, []⟩ ⟨1, y.n, []⟩)) = Val.truth (holdsV 27 (cmpV x y)); rw [← fit1 hx tx, ← fit1 hy ty]⟩
theorem rans_28 (a : Option Addr) (c : Nat) (L : List Val) (w : World) (hV : Vs w a L) (hf : fitsB L (inT 28) = true) (hR : ∀ x ∈ L, -9223372036854775808 ≤ x.n ∧ x.n ≤ 9223372036854775807) : Calls Try.prog 18 #[.int .i64 28, .slice a L.length c] w (Told 28 L w) := by
  obtain ⟨x, y, rfl, ⟨hx, hy⟩, tx, ty⟩ := shape2 hf
  obtain ⟨bk, off, rfl, ⟨c00, c01, c02⟩, C1, _⟩ := hV.cells (by simp)
  obtain ⟨c10, c11, c12⟩ := C1 (by simp)
  have l0 := World.block_lt_of_cell? _ _ c00
  refine (ra_cmp 28 x.n y.n (holdsV 28 (cmpV ⟨1, x.n, []⟩ ⟨1, y.n, []⟩)) (nameT 28) bk off c w c01 c11 (rname_any 28) (fun W => rcompares_any 28 x.n y.n (by simp) W _ rfl) rfl rfl (by decide) (by decide) (by decide) (by decide)).mono ?_
  intro e w' h
  exact ⟨_, h, fun _ => by show Val.truth (holdsV 28 (cmpV ⟨1, x.n, []⟩ ⟨1, y.n, []⟩)) = Val.truth (holdsV 28 (cmpV x y)); rw [← fit1 hx tx, ← fit1 hy ty]⟩
theorem rans_16 (a : Option Addr) (c : Nat) (L : List Val) (w : World) (hV : Vs w a L) (hf : fitsB L (inT 16) = true) (hR : ∀ x ∈ L, -9223372036854775808 ≤ x.n ∧ x.n ≤ 9223372036854775807) : Calls Try.prog 18 #[.int .i64 16, .slice a L.length c] w (Told 16 L w) := by
  obtain ⟨x, rfl, hx, tx⟩ := shape1 hf
  obtain ⟨bk, off, rfl, ⟨c00, c01, c02⟩, _, _⟩ := hV.cells (by simp)
  have l0 := World.block_lt_of_cell? _ _ c00
  refine (ra_neg x.n bk off c w c01 (rname_any 16)).mono ?_
  intro e w' h
  exact ⟨_, h, fun _ => rfl⟩
theorem rans_20 (a : Option Addr) (c : Nat) (L : List Val) (w : World) (hV : Vs w a L) (hf : fitsB L (inT 20) = true) (hR : ∀ x ∈ L, -9223372036854775808 ≤ x.n ∧ x.n ≤ 9223372036854775807) : Calls Try.prog 18 #[.int .i64 20, .slice a L.length c] w (Told 20 L w) := by
  obtain ⟨x, rfl, hx, tx⟩ := shape1 hf
  obtain ⟨bk, off, rfl, ⟨c00, c01, c02⟩, _, _⟩ := hV.cells (by simp)
  have l0 := World.block_lt_of_cell? _ _ c00
  refine (ra_inv x.n bk off c w c01 (rname_any 20)).mono ?_
  intro e w' h
  exact ⟨_, h, fun _ => rfl⟩
theorem rans_3 (a : Option Addr) (c : Nat) (L : List Val) (w : World) (hV : Vs w a L) (hf : fitsB L (inT 3) = true) (hR : ∀ x ∈ L, -9223372036854775808 ≤ x.n ∧ x.n ≤ 9223372036854775807) : Calls Try.prog 18 #[.int .i64 3, .slice a L.length c] w (Told 3 L w) := by
  obtain rfl := shape0 hf
  refine (ra_true a c w (rname_any 3)).mono ?_
  intro e w' h
  exact ⟨_, h, fun _ => rfl⟩
theorem rans_4 (a : Option Addr) (c : Nat) (L : List Val) (w : World) (hV : Vs w a L) (hf : fitsB L (inT 4) = true) (hR : ∀ x ∈ L, -9223372036854775808 ≤ x.n ∧ x.n ≤ 9223372036854775807) : Calls Try.prog 18 #[.int .i64 4, .slice a L.length c] w (Told 4 L w) := by
  obtain rfl := shape0 hf
  refine (ra_false a c w (rname_any 4)).mono ?_
  intro e w' h
  exact ⟨_, h, fun _ => rfl⟩
theorem rans_29 (a : Option Addr) (c : Nat) (L : List Val) (w : World) (hV : Vs w a L) (hf : fitsB L (inT 29) = true) (hR : ∀ x ∈ L, -9223372036854775808 ≤ x.n ∧ x.n ≤ 9223372036854775807) : Calls Try.prog 18 #[.int .i64 29, .slice a L.length c] w (Told 29 L w) := by
  obtain ⟨x, y, rfl, ⟨hx, hy⟩, tx, ty⟩ := shape2 hf
  obtain ⟨bk, off, rfl, ⟨c00, c01, c02⟩, C1, _⟩ := hV.cells (by simp)
  obtain ⟨c10, c11, c12⟩ := C1 (by simp)
  have l0 := World.block_lt_of_cell? _ _ c00
  refine (ra_both x.n y.n bk off c w c01 c11 (rname_any 29)).mono ?_
  intro e w' h
  exact ⟨_, h, fun _ => rfl⟩
theorem rans_30 (a : Option Addr) (c : Nat) (L : List Val) (w : World) (hV : Vs w a L) (hf : fitsB L (inT 30) = true) (hR : ∀ x ∈ L, -9223372036854775808 ≤ x.n ∧ x.n ≤ 9223372036854775807) : Calls Try.prog 18 #[.int .i64 30, .slice a L.length c] w (Told 30 L w) := by
  obtain ⟨x, y, rfl, ⟨hx, hy⟩, tx, ty⟩ := shape2 hf
  obtain ⟨bk, off, rfl, ⟨c00, c01, c02⟩, C1, _⟩ := hV.cells (by simp)
  obtain ⟨c10, c11, c12⟩ := C1 (by simp)
  have l0 := World.block_lt_of_cell? _ _ c00
  refine (ra_either x.n y.n bk off c w c01 c11 (rname_any 30)).mono ?_
  intro e w' h
  exact ⟨_, h, fun _ => rfl⟩
theorem rans_31 (a : Option Addr) (c : Nat) (L : List Val) (w : World) (hV : Vs w a L) (hf : fitsB L (inT 31) = true) (hR : ∀ x ∈ L, -9223372036854775808 ≤ x.n ∧ x.n ≤ 9223372036854775807) : Calls Try.prog 18 #[.int .i64 31, .slice a L.length c] w (Told 31 L w) := by
  obtain ⟨x, rfl, hx, tx⟩ := shape1 hf
  obtain ⟨bk, off, rfl, ⟨c00, c01, c02⟩, _, _⟩ := hV.cells (by simp)
  have l0 := World.block_lt_of_cell? _ _ c00
  refine (ra_not x.n bk off c w c01 (rname_any 31)).mono ?_
  intro e w' h
  exact ⟨_, h, fun _ => rfl⟩
theorem rans_32 (a : Option Addr) (c : Nat) (L : List Val) (w : World) (hV : Vs w a L) (hf : fitsB L (inT 32) = true) (hR : ∀ x ∈ L, -9223372036854775808 ≤ x.n ∧ x.n ≤ 9223372036854775807) : Calls Try.prog 18 #[.int .i64 32, .slice a L.length c] w (Told 32 L w) := by
  obtain ⟨x, rfl, hx, tx⟩ := shape1 hf
  obtain ⟨bk, off, rfl, ⟨c00, c01, c02⟩, _, _⟩ := hV.cells (by simp)
  have l0 := World.block_lt_of_cell? _ _ c00
  have bx := (fit2 hx tx).2
  refine (ra_bytes 32 0 ⟨1, x.b.length, []⟩ (nameT 32) _ 1 c w (rname_any 32) (fun W hb => rb_len bk off c x.b W bx (Nat.lt_of_lt_of_le l0 hb.size) (cell_below c02 hb)) rfl rfl (by decide) (by decide) (by decide) (by decide) (by decide) (by decide)).mono ?_
  intro e w' h
  exact ⟨_, h, fun _ => rfl⟩
theorem rans_33 (a : Option Addr) (c : Nat) (L : List Val) (w : World) (hV : Vs w a L) (hf : fitsB L (inT 33) = true) (hR : ∀ x ∈ L, -9223372036854775808 ≤ x.n ∧ x.n ≤ 9223372036854775807) : Calls Try.prog 18 #[.int .i64 33, .slice a L.length c] w (Told 33 L w) := by
  obtain ⟨x, y, rfl, ⟨hx, hy⟩, tx, ty⟩ := shape2 hf
  obtain ⟨bk, off, rfl, ⟨c00, c01, c02⟩, C1, _⟩ := hV.cells (by simp)
  obtain ⟨c10, c11, c12⟩ := C1 (by simp)
  have l0 := World.block_lt_of_cell? _ _ c00
  have bx := (fit2 hx tx).2
  have by' := (fit2 hy ty).2
  by_cases h0 : x.b.length + y.b.length > 256
  · have hf0 : faultV 33 [x, y] = 41 := by show (if x.b.length + y.b.length > 256 then (41 : Int) else 0) = 41; rw [if_pos h0]
    refine (ra_bytes 33 41 ⟨0, 0, []⟩ (nameT 33) _ 2 c w (rname_any 33) (fun W hb => rb_long bk off c x.b y.b W bx by' (Nat.lt_of_lt_of_le l0 hb.size) (cell_below c02 hb) (cell_below c12 hb) (by omega)) rfl rfl (by decide) (by decide) (by decide) (by decide) (by decide) (by decide)).mono ?_
    intro e w' h
    exact ⟨_, by rw [hf0]; exact h, fun e => by rw [hf0] at e; cases e⟩
  · have hf0 : faultV 33 [x, y] = 0 := by show (if x.b.length + y.b.length > 256 then (41 : Int) else 0) = 0; rw [if_neg h0]
    refine (ra_bytes 33 0 ⟨2, 0, x.b ++ y.b⟩ (nameT 33) _ 2 c w (rname_any 33) (fun W hb => rb_join bk off c x.b y.b W bx by' (Nat.lt_of_lt_of_le l0 hb.size) (cell_below c02 hb) (cell_below c12 hb) (by omega)) rfl rfl (by decide) (by decide) (by decide) (by decide) (by decide) (by decide)).mono ?_
    intro e w' h
    exact ⟨_, by rw [hf0]; exact h, fun _ => rfl⟩
theorem rans_34 (a : Option Addr) (c : Nat) (L : List Val) (w : World) (hV : Vs w a L) (hf : fitsB L (inT 34) = true) (hR : ∀ x ∈ L, -9223372036854775808 ≤ x.n ∧ x.n ≤ 9223372036854775807) : Calls Try.prog 18 #[.int .i64 34, .slice a L.length c] w (Told 34 L w) := by
  obtain ⟨x, y, z, rfl, ⟨hx, hy, hz⟩, tx, ty, tz⟩ := shape3 hf
  obtain ⟨bk, off, rfl, ⟨c00, c01, c02⟩, C1, C2⟩ := hV.cells (by simp)
  obtain ⟨c10, c11, c12⟩ := C1 (by simp)
  obtain ⟨c20, c21, c22⟩ := C2 (by simp)
  have l0 := World.block_lt_of_cell? _ _ c00
  have bx := (fit2 hx tx).2
  by_cases h0 : (0 ≤ y.n ∧ y.n ≤ z.n) ∧ z.n ≤ (x.b.length : Int)
  · have hf0 : faultV 34 [x, y, z] = 0 := by show (if (0 ≤ y.n ∧ y.n ≤ z.n) ∧ z.n ≤ x.b.length then (0 : Int) else 42) = 0; rw [if_pos h0]
    obtain ⟨p, hp⟩ : ∃ p : Nat, y.n = p := ⟨y.n.toNat, by omega⟩
    obtain ⟨q, hq⟩ : ∃ q : Nat, z.n = q := ⟨z.n.toNat, by omega⟩
    have d11 : w.cell? ⟨bk, off + 3 + 1, none⟩ = some (.int .i64 p) := by rw [← hp]; exact c11
    have d21 : w.cell? ⟨bk, off + 6 + 1, none⟩ = some (.int .i64 q) := by rw [← hq]; exact c21
    refine (ra_bytes 34 0 ⟨2, 0, (x.b.take q).drop p⟩ (nameT 34) _ 3 c w (rname_any 34) (fun W hb => rb_cut bk off c x.b W bx (Nat.lt_of_lt_of_le l0 hb.size) (cell_below c02 hb) p q (cell_below d11 hb) (cell_below d21 hb) (by omega) (by omega)) rfl rfl (by decide) (by decide) (by decide) (by decide) (by decide) (by decide)).mono ?_
    intro e w' h
    exact ⟨_, by rw [hf0]; exact h, fun _ => by show _ = (⟨2, 0, (x.b.take z.n.toNat).drop y.n.toNat⟩ : Val); rw [hp, hq]; rfl⟩
  · have hf0 : faultV 34 [x, y, z] = 42 := by show (if (0 ≤ y.n ∧ y.n ≤ z.n) ∧ z.n ≤ x.b.length then (0 : Int) else 42) = 42; rw [if_neg h0]
    have hC : ∀ W, Below w.heap.size w W → Calls Try.prog 34 #[.string ⟨(nameT 34).toArray⟩, .slice (some ⟨bk, off, none⟩) 3 c] W (Both ⟨0, 0, []⟩ 42 W) := fun W hb => by
      by_cases e1 : y.n < 0
      · exact rb_nocut1 bk off c y.n z.n x.b W bx (Nat.lt_of_lt_of_le l0 hb.size) (cell_below c02 hb) (cell_below c11 hb) (cell_below c21 hb) e1
      by_cases e2 : z.n < y.n
      · exact rb_nocut2 bk off c y.n z.n x.b W bx (Nat.lt_of_lt_of_le l0 hb.size) (cell_below c02 hb) (cell_below c11 hb) (cell_below c21 hb) (by omega) e2
      · exact rb_nocut3 bk off c y.n z.n x.b W bx (Nat.lt_of_lt_of_le l0 hb.size) (cell_below c02 hb) (cell_below c11 hb) (cell_below c21 hb) (by omega) (by omega) (by omega)
    refine (ra_bytes 34 42 ⟨0, 0, []⟩ (nameT 34) _ 3 c w (rname_any 34) (fun W hb => hC W hb) rfl rfl (by decide) (by decide) (by decide) (by decide) (by decide) (by decide)).mono ?_
    intro e w' h
    exact ⟨_, by rw [hf0]; exact h, fun e => by rw [hf0] at e; cases e⟩
theorem rans_35 (a : Option Addr) (c : Nat) (L : List Val) (w : World) (hV : Vs w a L) (hf : fitsB L (inT 35) = true) (hR : ∀ x ∈ L, -9223372036854775808 ≤ x.n ∧ x.n ≤ 9223372036854775807) : Calls Try.prog 18 #[.int .i64 35, .slice a L.length c] w (Told 35 L w) := by
  obtain ⟨x, y, rfl, ⟨hx, hy⟩, tx, ty⟩ := shape2 hf
  obtain ⟨bk, off, rfl, ⟨c00, c01, c02⟩, C1, _⟩ := hV.cells (by simp)
  obtain ⟨c10, c11, c12⟩ := C1 (by simp)
  have l0 := World.block_lt_of_cell? _ _ c00
  have bx := (fit2 hx tx).2
  by_cases h0 : 0 ≤ y.n ∧ y.n < (x.b.length : Int)
  · have hf0 : faultV 35 [x, y] = 0 := by show (if 0 ≤ y.n ∧ y.n < x.b.length then (0 : Int) else 42) = 0; rw [if_pos h0]
    obtain ⟨p, hp⟩ : ∃ p : Nat, y.n = p := ⟨y.n.toNat, by omega⟩
    have d11 : w.cell? ⟨bk, off + 3 + 1, none⟩ = some (.int .i64 p) := by rw [← hp]; exact c11
    refine (ra_bytes 35 0 ⟨1, ((x.b.getD p 0).toNat : Int), []⟩ (nameT 35) _ 2 c w (rname_any 35) (fun W hb => rb_at bk off c x.b W bx (Nat.lt_of_lt_of_le l0 hb.size) (cell_below c02 hb) p (cell_below d11 hb) (by omega)) rfl rfl (by decide) (by decide) (by decide) (by decide) (by decide) (by decide)).mono ?_
    intro e w' h
    exact ⟨_, by rw [hf0]; exact h, fun _ => by show _ = (⟨1, ((x.b.getD y.n.toNat 0).toNat : Int), []⟩ : Val); rw [hp]; rfl⟩
  · have hf0 : faultV 35 [x, y] = 42 := by show (if 0 ≤ y.n ∧ y.n < x.b.length then (0 : Int) else 42) = 42; rw [if_neg h0]
    have hC : ∀ W, Below w.heap.size w W → Calls Try.prog 34 #[.string ⟨(nameT 35).toArray⟩, .slice (some ⟨bk, off, none⟩) 2 c] W (Both ⟨0, 0, []⟩ 42 W) := fun W hb => by
      by_cases e1 : y.n < 0
      · exact rb_noat1 bk off c y.n x.b W bx (Nat.lt_of_lt_of_le l0 hb.size) (cell_below c02 hb) (cell_below c11 hb) e1
      · exact rb_noat2 bk off c y.n x.b W bx (Nat.lt_of_lt_of_le l0 hb.size) (cell_below c02 hb) (cell_below c11 hb) (by omega) (by omega)
    refine (ra_bytes 35 42 ⟨0, 0, []⟩ (nameT 35) _ 2 c w (rname_any 35) (fun W hb => hC W hb) rfl rfl (by decide) (by decide) (by decide) (by decide) (by decide) (by decide)).mono ?_
    intro e w' h
    exact ⟨_, by rw [hf0]; exact h, fun e => by rw [hf0] at e; cases e⟩
theorem rans_36 (a : Option Addr) (c : Nat) (L : List Val) (w : World) (hV : Vs w a L) (hf : fitsB L (inT 36) = true) (hR : ∀ x ∈ L, -9223372036854775808 ≤ x.n ∧ x.n ≤ 9223372036854775807) : Calls Try.prog 18 #[.int .i64 36, .slice a L.length c] w (Told 36 L w) := by
  obtain ⟨x, y, rfl, ⟨hx, hy⟩, tx, ty⟩ := shape2 hf
  obtain ⟨bk, off, rfl, ⟨c00, c01, c02⟩, C1, _⟩ := hV.cells (by simp)
  obtain ⟨c10, c11, c12⟩ := C1 (by simp)
  have l0 := World.block_lt_of_cell? _ _ c00
  have bx := (fit2 hx tx).2
  have by' := (fit2 hy ty).2
  refine (ra_bytes 36 0 (Val.truth (x.b == y.b)) (nameT 36) _ 2 c w (rname_any 36) (fun W hb => rb_same bk off c x.b y.b W bx by' (Nat.lt_of_lt_of_le l0 hb.size) (cell_below c02 hb) (cell_below c12 hb)) rfl rfl (by decide) (by decide) (by decide) (by decide) (by decide) (by decide)).mono ?_
  intro e w' h
  exact ⟨_, h, fun _ => by show Val.truth (x.b == y.b) = Val.truth (holdsV 36 (cmpV x y)); rw [same_holds, ← (fit2 hx tx).1, ← (fit2 hy ty).1]⟩
theorem rans_37 (a : Option Addr) (c : Nat) (L : List Val) (w : World) (hV : Vs w a L) (hf : fitsB L (inT 37) = true) (hR : ∀ x ∈ L, -9223372036854775808 ≤ x.n ∧ x.n ≤ 9223372036854775807) : Calls Try.prog 18 #[.int .i64 37, .slice a L.length c] w (Told 37 L w) := by
  obtain ⟨x, y, rfl, ⟨hx, hy⟩, tx, ty⟩ := shape2 hf
  obtain ⟨bk, off, rfl, ⟨c00, c01, c02⟩, C1, _⟩ := hV.cells (by simp)
  obtain ⟨c10, c11, c12⟩ := C1 (by simp)
  have l0 := World.block_lt_of_cell? _ _ c00
  have bx := (fit2 hx tx).2
  have by' := (fit2 hy ty).2
  refine (ra_bytes 37 0 (Val.truth (Op.bytesLess x.b y.b)) (nameT 37) _ 2 c w (rname_any 37) (fun W hb => rb_less bk off c x.b y.b W bx by' (Nat.lt_of_lt_of_le l0 hb.size) (cell_below c02 hb) (cell_below c12 hb)) rfl rfl (by decide) (by decide) (by decide) (by decide) (by decide) (by decide)).mono ?_
  intro e w' h
  exact ⟨_, h, fun _ => by show Val.truth (Op.bytesLess x.b y.b) = Val.truth (holdsV 37 (cmpV x y)); rw [less_holds, ← (fit2 hx tx).1, ← (fit2 hy ty).1]⟩
theorem rans_38 (a : Option Addr) (c : Nat) (L : List Val) (w : World) (hV : Vs w a L) (hf : fitsB L (inT 38) = true) (hR : ∀ x ∈ L, -9223372036854775808 ≤ x.n ∧ x.n ≤ 9223372036854775807) : Calls Try.prog 18 #[.int .i64 38, .slice a L.length c] w (Told 38 L w) := by
  obtain ⟨x, rfl, hx, tx⟩ := shape1 hf
  obtain ⟨bk, off, rfl, ⟨c00, c01, c02⟩, _, _⟩ := hV.cells (by simp)
  have l0 := World.block_lt_of_cell? _ _ c00
  refine (ra_bytes 38 0 ⟨2, 0, packV x.n⟩ (nameT 38) _ 1 c w (rname_any 38) (fun W hb => rb_pack bk off c x.n W (Nat.lt_of_lt_of_le l0 hb.size) (cell_below c01 hb)) rfl rfl (by decide) (by decide) (by decide) (by decide) (by decide) (by decide)).mono ?_
  intro e w' h
  exact ⟨_, h, fun _ => rfl⟩
theorem rans_40 (a : Option Addr) (c : Nat) (L : List Val) (w : World) (hV : Vs w a L) (hf : fitsB L (inT 40) = true) (hR : ∀ x ∈ L, -9223372036854775808 ≤ x.n ∧ x.n ≤ 9223372036854775807) : Calls Try.prog 18 #[.int .i64 40, .slice a L.length c] w (Told 40 L w) := by
  obtain ⟨x, rfl, hx, tx⟩ := shape1 hf
  obtain ⟨bk, off, rfl, ⟨c00, c01, c02⟩, _, _⟩ := hV.cells (by simp)
  have l0 := World.block_lt_of_cell? _ _ c00
  refine (ra_bytes 40 0 ⟨2, 0, [UInt8.ofNat (x.n % 256).toNat]⟩ (nameT 40) _ 1 c w (rname_any 40) (fun W hb => rb_one bk off c x.n W (Nat.lt_of_lt_of_le l0 hb.size) (cell_below c01 hb)) rfl rfl (by decide) (by decide) (by decide) (by decide) (by decide) (by decide)).mono ?_
  intro e w' h
  exact ⟨_, h, fun _ => rfl⟩
theorem rans_39 (a : Option Addr) (c : Nat) (L : List Val) (w : World) (hV : Vs w a L) (hf : fitsB L (inT 39) = true) (hR : ∀ x ∈ L, -9223372036854775808 ≤ x.n ∧ x.n ≤ 9223372036854775807) : Calls Try.prog 18 #[.int .i64 39, .slice a L.length c] w (Told 39 L w) := by
  obtain ⟨x, rfl, hx, tx⟩ := shape1 hf
  obtain ⟨bk, off, rfl, ⟨c00, c01, c02⟩, _, _⟩ := hV.cells (by simp)
  have l0 := World.block_lt_of_cell? _ _ c00
  have bx := (fit2 hx tx).2
  by_cases h0 : x.b.length ≤ 8
  · have hf0 : faultV 39 [x] = 0 := by show (if x.b.length > 8 then (41 : Int) else 0) = 0; rw [if_neg (by omega)]
    refine (ra_bytes 39 0 ⟨1, unpackV x.b, []⟩ (nameT 39) _ 1 c w (rname_any 39) (fun W hb => rb_unpack bk off c x.b W bx (Nat.lt_of_lt_of_le l0 hb.size) (cell_below c02 hb) h0) rfl rfl (by decide) (by decide) (by decide) (by decide) (by decide) (by decide)).mono ?_
    intro e w' h
    exact ⟨_, by rw [hf0]; exact h, fun _ => rfl⟩
  · have hf0 : faultV 39 [x] = 41 := by show (if x.b.length > 8 then (41 : Int) else 0) = 41; rw [if_pos (by omega)]
    refine (ra_bytes 39 41 ⟨0, 0, []⟩ (nameT 39) _ 1 c w (rname_any 39) (fun W hb => rb_unlong bk off c x.b W bx (Nat.lt_of_lt_of_le l0 hb.size) (cell_below c02 hb) (by omega)) rfl rfl (by decide) (by decide) (by decide) (by decide) (by decide) (by decide)).mono ?_
    intro e w' h
    exact ⟨_, by rw [hf0]; exact h, fun e => by rw [hf0] at e; cases e⟩
theorem ranswer_any (n : Int) (hp : plainB n = true) (a : Option Addr) (c : Nat) (L : List Val) (w : World) (hV : Vs w a L) (hf : fitsB L (inT n) = true) (hR : ∀ x ∈ L, -9223372036854775808 ≤ x.n ∧ x.n ≤ 9223372036854775807) : Calls Try.prog 18 #[.int .i64 n, .slice a L.length c] w (Told n L w) := by
  rcases plain_cases n hp with rfl | rfl | rfl | rfl | rfl | rfl | rfl | rfl | rfl | rfl | rfl | rfl | rfl | rfl | rfl | rfl | rfl | rfl | rfl | rfl | rfl | rfl | rfl | rfl | rfl | rfl | rfl | rfl | rfl | rfl | rfl | rfl
  · exact rans_3 a c L w hV hf hR
  · exact rans_4 a c L w hV hf hR
  · exact rans_11 a c L w hV hf hR
  · exact rans_12 a c L w hV hf hR
  · exact rans_13 a c L w hV hf hR
  · exact rans_14 a c L w hV hf hR
  · exact rans_15 a c L w hV hf hR
  · exact rans_16 a c L w hV hf hR
  · exact rans_17 a c L w hV hf hR
  · exact rans_18 a c L w hV hf hR
  · exact rans_19 a c L w hV hf hR
  · exact rans_20 a c L w hV hf hR
  · exact rans_21 a c L w hV hf hR
  · exact rans_22 a c L w hV hf hR
  · exact rans_23 a c L w hV hf hR
  · exact rans_24 a c L w hV hf hR
  · exact rans_25 a c L w hV hf hR
  · exact rans_26 a c L w hV hf hR
  · exact rans_27 a c L w hV hf hR
  · exact rans_28 a c L w hV hf hR
  · exact rans_29 a c L w hV hf hR
  · exact rans_30 a c L w hV hf hR
  · exact rans_31 a c L w hV hf hR
  · exact rans_32 a c L w hV hf hR
  · exact rans_33 a c L w hV hf hR
  · exact rans_34 a c L w hV hf hR
  · exact rans_35 a c L w hV hf hR
  · exact rans_36 a c L w hV hf hR
  · exact rans_37 a c L w hV hf hR
  · exact rans_38 a c L w hV hf hR
  · exact rans_39 a c L w hV hf hR
  · exact rans_40 a c L w hV hf hR
end Go.Proofs.Ytkmfopdklohgnaa
