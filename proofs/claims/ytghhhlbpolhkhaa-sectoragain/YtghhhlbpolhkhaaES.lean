/- Layer 15: what must come. -/
import Derived.Test.YtghhhlbpolhkhaaER
import Derived.Deep.RegionHeld3
namespace Go.Proofs.Ytghhhlbpolhkhaa
open Go.RowKit
theorem num15_any (n : Int) (w : World) : Calls Try.prog 9 #[.int .i64 n] w fun e w' => e = .returned (.int .i64 n) ∧ w' = w := by
  go_enter Try.func9, Try.ntmps9
  go_wp2_with fail
  go_ret
  exact ⟨rfl, rfl⟩
theorem made15 (W : World) (n : Nat) (hn : n ≤ 64) : ∃ W2, (Instr.makeSlice 77 (.int .i64 (n : Int)) (.int .i64 (n : Int))).run Try.prog W = .ok (.slice (some ⟨W.heap.size, 0, none⟩) n n) W2 ∧ (convert 77 9 (.slice (some ⟨W.heap.size, 0, none⟩) n n)).run Try.prog W2 = .ok (sv (List.replicate n 0)) W2 ∧ Below W.heap.size W W2 := by
  have hi : (Try.prog.info? 5).map (fun i => (i.zero, i.size, i.bytes)) = some (some (.int .u8 0), 1, 1) := by kernel_rfl
  obtain ⟨i0, hi, hz0, hz1, hz2⟩ := info_parts hi
  obtain ⟨W2, h1, h2, h3⟩ := run_make_full (w := W) W.heap.size 77 5 i0 (.int .u8 0) 1 Try.underlying77 hi hz0 hz1 .i64 .i64 n (by rw [hz2]; omega) (by unfold maxLen; omega) (Nat.le_refl _)
  refine ⟨W2, h1, ?_, (Below.refl _ W).grown h3 (Nat.le_refl _) (fun k hk => by cases hk)⟩
  have hcell : ∀ j, j < n → W2.cell? ⟨W.heap.size, j, none⟩ = some (.int .u8 0) := fun j hj => by
    rw [h2.cellAt j (by omega)]
    simp [madeCells, Value.cells, hj, Nat.mod_one]
  have := run_str (w := W2) (ao := some ⟨W.heap.size, 0, none⟩) (bs := List.replicate n 0) (.inr ⟨_, 0, rfl, fun j hj => by
    rw [Nat.zero_add, hcell j (by simpa using hj)]
    simp⟩) n
  rw [List.length_replicate] at this
  exact this
theorem sv_app (a b : Bt) : (⟨a.toArray⟩ : ByteArray) ++ (⟨b.toArray⟩ : ByteArray) = ⟨(a ++ b).toArray⟩ := by
  have : ∀ x y : ByteArray, x ++ y = ⟨x.data ++ y.data⟩ := fun x y => by
    apply ByteArray.ext
    simp
  rw [this]
  simp
set_option maxRecDepth 100000 in
theorem pad15_any (b : Bt) (w : World) (hb : b.length ≤ 64) : Calls Try.prog 18 #[sv b] w fun e w' => e = .returned (sv (padB b)) ∧ Below w.heap.size w w' := by
  obtain ⟨W2, h1, h2, h3⟩ := made15 w (64 - b.length) (by omega)
  have e : ((64 - b.length : Nat) : Int) = 64 - (b.length : Int) := by omega
  rw [e] at h1
  have HP : Hid (padB b = b ++ List.replicate (64 - b.length) 0) := hidb rfl
  have hlz : b.length + (List.replicate (64 - b.length) (0 : UInt8)).length ≤ 64 := by rw [List.length_replicate]; omega
  clear e
  generalize List.replicate (64 - b.length) (0 : UInt8) = z at *
  generalize hk : 64 - b.length = k at *
  clear hk
  go_enter Try.func18, Try.ntmps18
  go_wp2_with fail
  go_ret
  refine ⟨?_, h3⟩
  rw [HP.out]
  show Ending.returned (.string (_ ++ _)) = Ending.returned (.string ⟨_⟩)
  rw [sv_app]
def kD : Dk := crD (writeD (writeD (newD 10) [102] 0 [97]) [102] 1 [98]) [0, 1]
theorem k_plain : writeE (newD 10) [102] 0 [97] = 0 ∧ writeE (writeD (newD 10) [102] 0 [97]) [102] 1 [98] = 0 ∧ readL kD [102] = [fillS [], fillS [98]] ∧ readE kD [102] = 0 ∧ usedD kD = 2 := by
  decide +kernel
/-- A row of two that was read. -/
theorem row_cells2 {w : World} {base : Nat} {v : Value} {L : List Sec} (h : w.ownsRow base 48 2 v L.length (secCs L)) : ∃ a c, v = .slice a L.length c ∧ L.length ≤ c ∧ c ≤ maxLen ∧ ∀ k y, L[k]? = some y → ∃ q, a = some ⟨q, 0, none⟩ ∧ base ≤ q ∧ w.cell? ⟨q, k * 2, none⟩ = some (sv y.b) ∧ w.cell? ⟨q, k * 2 + 1, none⟩ = some (.bool y.bad) := by
  obtain ⟨a, c, e, h1, h2, h3⟩ := row_form h
  refine ⟨a, c, e, h1, h2, fun k y hk => ?_⟩
  have hkl := (List.getElem?_eq_some_iff.1 hk).1
  rcases h3 with ⟨_, x, _⟩ | ⟨q, x, x2, _, _⟩
  · omega
  · subst x
    rw [e] at h
    obtain ⟨z, z1, z2, z3, _, _⟩ := row_two h k hkl
    rw [z1] at hk
    injection hk with hk
    subst hk
    exact ⟨q, rfl, x2, z2, z3⟩
set_option maxRecDepth 100000 in
set_option maxHeartbeats 1000000 in
theorem knows15_any (w : World) : Calls Try.prog 16 #[] w fun e w' => e = .returned (.bool true) ∧ Below w.heap.size w w' := by
  obtain ⟨p1, p2, p3, p4, p5⟩ := k_plain
  have HN := hidb (new15_yes 10 w (by decide) (by decide))
  have HU := hidb num15_any
  have HW1 : Hid (∀ db W, DkAt (fun k => k < w.heap.size) db (newD 10) W → Below w.heap.size w W → Calls Try.prog 10 #[.pointer (some ⟨db, 0, none⟩), .string ⟨#[102]⟩, .int .i64 0, .string ⟨#[97]⟩] W fun e w' => e = .returned (.int .i64 0) ∧ Hid (DkAt (fun k => k < w.heap.size) db (writeD (newD 10) [102] 0 [97]) w' ∧ Below w.heap.size w w')) := hidb fun db W h hb => by
    have := dwrite_any h [102] 0 [97] (by simp) (by simp) (by decide) (.inr (by simp [newD]))
    rw [p1] at this
    exact this.mono fun e w' ⟨e1, H⟩ => ⟨e1, hidb ⟨H.out.1, hb.trans (H.out.2.low hb.size fun i hi x => x hi)⟩⟩
  have hfs : ∀ f ∈ (writeD (newD 10) [102] 0 [97]).fs, f.name = [102] := by decide +kernel
  have HW2 : Hid (∀ db W, DkAt (fun k => k < w.heap.size) db (writeD (newD 10) [102] 0 [97]) W → Below w.heap.size w W → Calls Try.prog 10 #[.pointer (some ⟨db, 0, none⟩), .string ⟨#[102]⟩, .int .i64 1, .string ⟨#[98]⟩] W fun e w' => e = .returned (.int .i64 0) ∧ Hid (DkAt (fun k => k < w.heap.size) db (writeD (writeD (newD 10) [102] 0 [97]) [102] 1 [98]) w' ∧ Below w.heap.size w w')) := hidb fun db W h hb => by
    have := dwrite_any h [102] 1 [98] (by simp) (by simp) (by decide) (.inr hfs)
    rw [p2] at this
    exact this.mono fun e w' ⟨e1, H⟩ => ⟨e1, hidb ⟨H.out.1, hb.trans (H.out.2.low hb.size fun i hi x => x hi)⟩⟩
  have HC : Hid (∀ db W, DkAt (fun k => k < w.heap.size) db (writeD (writeD (newD 10) [102] 0 [97]) [102] 1 [98]) W → Below w.heap.size w W → Calls Try.prog 7 #[.pointer (some ⟨db, 0, none⟩), .slice (some ⟨W.heap.size, 0, none⟩) 2 2] (W.alloc (.cells #[.int .i64 0, .int .i64 1] 3)) fun e w' => e = .returned (.tuple #[]) ∧ Hid (DkAt (fun k => k < w.heap.size) db kD w' ∧ Below w.heap.size w w')) := hidb fun db W h hb => by
    have hb2 : Below W.heap.size W (W.alloc (.cells #[.int .i64 0, .int .i64 1] 3)) := (Below.refl _ W).alloc (Nat.le_refl _) _
    have hm := h.more hb2 (fun k => k = W.heap.size) fun k e => ⟨by omega, by rw [World.size_alloc]; omega⟩
    have hbx := heap_alloc_new W (.cells #[.int .i64 0, .int .i64 1] 3)
    have := dcrash_any hm (some ⟨W.heap.size, 0, none⟩) 2 2 [0, 1] ⟨_, _, rfl, by simp, by simp, .inr ⟨_, 0, rfl, by simp, fun j hj => by
      rw [Lib.cell_of_heap hbx]
      match j, hj with
      | 0, _ => rfl
      | 1, _ => rfl⟩⟩
    refine this.mono fun e w' ⟨e1, H⟩ => ⟨e1, hidb ⟨H.out.1.less fun k hk => .inl hk, ?_⟩⟩
    exact (hb.alloc hb.size _).trans (H.out.2.low (by rw [World.size_alloc]; have := hb.size; omega) fun i hi x => x (.inl hi))
  have HR : Hid (∀ db W, DkAt (fun k => k < w.heap.size) db kD W → Below w.heap.size w W → Calls Try.prog 8 #[.pointer (some ⟨db, 0, none⟩), .string ⟨#[102]⟩] W fun e w' => ∃ q c, e = .returned (.tuple #[.slice (some ⟨q, 0, none⟩) 2 c, .int .i64 0]) ∧ 2 ≤ c ∧ c ≤ maxLen ∧ w'.cell? ⟨q, 0, none⟩ = some (sv (padB [])) ∧ w'.cell? ⟨q, 1, none⟩ = some (.bool false) ∧ w'.cell? ⟨q, 2, none⟩ = some (sv (padB [98])) ∧ w'.cell? ⟨q, 3, none⟩ = some (.bool false) ∧ q < w'.heap.size ∧ Hid (DkAt (fun k => k < w.heap.size) db kD w' ∧ Below w.heap.size w w')) := hidb fun db W h hb => by
    have := read15_any h [102]
    rw [p3, p4] at this
    refine this.mono fun e w' ⟨v, e1, H⟩ => ?_
    obtain ⟨H1, H2⟩ := H.out
    obtain ⟨a, c, rfl, c1, c2, hc⟩ := row_cells2 H1
    obtain ⟨q, rfl, _, x0, x1⟩ := hc 0 _ rfl
    obtain ⟨q', e', _, x2, x3⟩ := hc 1 _ rfl
    injection e' with e'
    injection e' with e'
    subst e'
    exact ⟨q, c, e1, c1, c2, x0, x1, x2, x3, World.block_lt_of_cell? _ _ x0, hidb ⟨h.below H2, hb.trans (H2.mono hb.size)⟩⟩
  have HUs : Hid (∀ db W, DkAt (fun k => k < w.heap.size) db kD W → Calls Try.prog 13 #[.pointer (some ⟨db, 0, none⟩)] W fun e w' => e = .returned (.int .i64 2) ∧ w' = W) := hidb fun db W h => by
    have := dused_any h
    rw [p5] at this
    exact this
  have HP2 : Hid (∀ db q W, DkAt (fun k => k < w.heap.size) db kD W → Below w.heap.size w W → W.cell? ⟨q, 0, none⟩ = some (sv (padB [])) → W.cell? ⟨q, 2, none⟩ = some (sv (padB [98])) → Calls Try.prog 18 #[.string ⟨#[98]⟩] W fun e w' => e = .returned (sv (padB [98])) ∧ (w'.cell? ⟨q, 0, none⟩ = some (sv (padB [])) ∧ w'.cell? ⟨q, 2, none⟩ = some (sv (padB [98]))) ∧ Hid (Calls Try.prog 13 #[.pointer (some ⟨db, 0, none⟩)] w' fun e w'' => e = .returned (.int .i64 2) ∧ w'' = w') ∧ Hid (Below w.heap.size w w')) := hidb fun db q W h hb c0 c2 =>
    (pad15_any [98] W (by simp)).mono fun e w' ⟨e1, b1⟩ => ⟨e1, ⟨below_keep b1 _ _ c0, below_keep b1 _ _ c2⟩, hidb (HUs.out db w' (h.below b1)), hidb (hb.trans (b1.mono hb.size))⟩
  have HP1 : Hid (∀ db q W, DkAt (fun k => k < w.heap.size) db kD W → Below w.heap.size w W → W.cell? ⟨q, 0, none⟩ = some (sv (padB [])) → W.cell? ⟨q, 2, none⟩ = some (sv (padB [98])) → Calls Try.prog 18 #[.string ⟨#[]⟩] W fun e w' => e = .returned (sv (padB [])) ∧ (w'.cell? ⟨q, 0, none⟩ = some (sv (padB [])) ∧ w'.cell? ⟨q, 2, none⟩ = some (sv (padB [98]))) ∧ Hid (Calls Try.prog 18 #[.string ⟨#[98]⟩] w' fun e w' => e = .returned (sv (padB [98])) ∧ (w'.cell? ⟨q, 0, none⟩ = some (sv (padB [])) ∧ w'.cell? ⟨q, 2, none⟩ = some (sv (padB [98]))) ∧ Hid (Calls Try.prog 13 #[.pointer (some ⟨db, 0, none⟩)] w' fun e w'' => e = .returned (.int .i64 2) ∧ w'' = w') ∧ Hid (Below w.heap.size w w'))) := hidb fun db q W h hb c0 c2 =>
    (pad15_any [] W (by simp)).mono fun e w' ⟨e1, b1⟩ => ⟨e1, ⟨below_keep b1 _ _ c0, below_keep b1 _ _ c2⟩, hidb (HP2.out db q w' (h.below b1) (hb.trans (b1.mono hb.size)) (below_keep b1 _ _ c0) (below_keep b1 _ _ c2))⟩
  clear HP2 HUs
  clear p1 p2 p3 p4 p5 hfs
  go_enter Try.func16, Try.ntmps16
  go_wp2_with (first
    | (go_at_call 17; refine HN.out.mono ?_; clear HN; rintro e w1 ⟨db, rfl, D1⟩; replace HW1 := hidb (HW1.out db w1 D1.out.1 D1.out.2))
    | (go_at_call 10; refine HW1.out.mono ?_; clear HW1; rintro e w2 ⟨rfl, D2⟩; replace HW2 := hidb (HW2.out db w2 D2.out.1 D2.out.2))
    | (go_at_call 10; refine HW2.out.mono ?_; clear HW2; rintro e w3 ⟨rfl, D3⟩; replace HC := hidb (HC.out db w3 D3.out.1 D3.out.2))
    | (go_at_call 7; refine HC.out.mono ?_; clear HC; rintro e w4 ⟨rfl, D4⟩; replace HR := hidb (HR.out db w4 D4.out.1 D4.out.2))
    | (go_at_call 8; refine HR.out.mono ?_; clear HR; rintro e w5 ⟨q, c, rfl, hc1, hc2, x0, x1, x2, x3, hq, D5⟩)
    | fail)
  have hb5 : Below w5.heap.size w5 w5.drew := ⟨rfl, rfl, rfl, Nat.le_refl _, fun _ _ => rfl⟩
  replace HP1 := hidb (HP1.out db q w5.drew (D5.out.1.below hb5) (D5.out.2.drew) x0 x2)
  clear D1 D2 D3 D4 D5 x1 x3 hb5
  generalize padB [] = pa at *
  generalize padB [98] = pb at *
  go_region_held3 (fun W => W.cell? ⟨q, 0, none⟩ = some (sv pa) ∧ W.cell? ⟨q, 2, none⟩ = some (sv pb)) (first | go_keep | exact ⟨x0, x2⟩ | exact ⟨y0, y2⟩ | exact ⟨z0, z2⟩) (first
    | (go_at_call 9; refine (HU.out _ _).mono ?_; rintro e wn ⟨rfl, rfl⟩)
    | (go_at_call 18; first | (refine HP1.out.mono ?_; clear HP1; rintro e w6 ⟨rfl, ⟨y0, y2⟩, HP2⟩) | (refine HP2.out.mono ?_; clear HP2; rintro e w7 ⟨rfl, ⟨z0, z2⟩, HU2, HB⟩))
    | (go_at_call 13; refine HU2.out.mono ?_; clear HU2; rintro e w8 ⟨rfl, rfl⟩))
  go_wp2_with fail
  go_ret
  exact ⟨rfl, HB.out⟩
end Go.Proofs.Ytghhhlbpolhkhaa
