/- Layer 11: stores and transactions that nobody made. -/
import Derived.Test.YticihfbhnbkjjaaDoorKA
namespace Go.Proofs.YticihfbhnbkjjaaDoor
open Go.RowKit
/-- One that nobody made. -/
def Unm (q : Option Addr) (w : World) : Prop := q = none ∨ ∃ b, b < w.heap.size ∧ q = some ⟨b, 0, none⟩ ∧ w.cell? ⟨b, 0, none⟩ = some (.pointer none)
theorem Unm.below {q : Option Addr} {w w' : World} (h : Unm q w) (k : Below w.heap.size w w') : Unm q w' := by
  rcases h with h | ⟨b, h0, h1, h2⟩
  · exact .inl h
  · exact .inr ⟨b, Nat.lt_of_lt_of_le h0 k.size, h1, (k.cell (p := ⟨b, 0, none⟩) h0).trans h2⟩
theorem smade_no (q : Option Addr) (w : World) (h : Unm q w) : Calls Tryd.prog 37 #[.pointer q] w fun e w' => e = .returned (.bool false) ∧ w' = w := by
  rcases h with rfl | ⟨b, h0, rfl, c⟩
  · go_enter Tryd.func37, Tryd.ntmps37
    go_wp2_with fail
    go_ret
    exact ⟨rfl, rfl⟩
  · go_enter Tryd.func37, Tryd.ntmps37
    go_wp2_with fail
    go_ret
    exact ⟨rfl, rfl⟩
theorem xmade_no (q : Option Addr) (w : World) (h : Unm q w) : Calls Tryd.prog 40 #[.pointer q] w fun e w' => e = .returned (.bool false) ∧ w' = w := by
  rcases h with rfl | ⟨b, h0, rfl, c⟩
  · go_enter Tryd.func40, Tryd.ntmps40
    go_wp2_with fail
    go_ret
    exact ⟨rfl, rfl⟩
  · go_enter Tryd.func40, Tryd.ntmps40
    go_wp2_with fail
    go_ret
    exact ⟨rfl, rfl⟩
set_option maxRecDepth 100000 in
theorem sput_no (q : Option Addr) (k v : Bt) (w : World) (h : Unm q w) : Calls Tryd.prog 14 #[.pointer q, sv k, sv v] w fun e w' => e = .returned (.int .i64 1) ∧ w' = w := by
  have HM : Hid (∀ W, Below w.heap.size w W → Calls Tryd.prog 37 #[.pointer q] W fun e w' => e = .returned (.bool false) ∧ w' = W) := hidb fun W hW => smade_no q W (h.below hW)
  have HB := hidb (Below.refl w.heap.size w)
  clear h
  go_enter Tryd.func14, Tryd.ntmps14
  go_wp2_with (first
    | (go_at_call 37; refine (HM.out _ (by first | exact HB.out | exact HB.out.alloc (Nat.le_refl _) _ | exact (HB.out.alloc (Nat.le_refl _) _).alloc (by simp) _)).mono ?_; clear HM; rintro e w1 ⟨rfl, rfl⟩)
    | fail)
  go_ret
  exact ⟨rfl, rfl⟩
set_option maxRecDepth 100000 in
theorem sget_no (q : Option Addr) (k : Bt) (w : World) (h : Unm q w) : Calls Tryd.prog 9 #[.pointer q, sv k] w fun e w' => e = .returned (.tuple #[sv [], .bool false]) ∧ w' = w := by
  have HM : Hid (∀ W, Below w.heap.size w W → Calls Tryd.prog 37 #[.pointer q] W fun e w' => e = .returned (.bool false) ∧ w' = W) := hidb fun W hW => smade_no q W (h.below hW)
  have HB := hidb (Below.refl w.heap.size w)
  clear h
  go_enter Tryd.func9, Tryd.ntmps9
  go_wp2_with (first
    | (go_at_call 37; refine (HM.out _ (by first | exact HB.out | exact HB.out.alloc (Nat.le_refl _) _ | exact (HB.out.alloc (Nat.le_refl _) _).alloc (by simp) _)).mono ?_; clear HM; rintro e w1 ⟨rfl, rfl⟩)
    | fail)
  go_ret2
  exact ⟨rfl, rfl⟩
set_option maxRecDepth 100000 in
theorem snext_no (q : Option Addr) (k : Bt) (w : World) (h : Unm q w) : Calls Tryd.prog 10 #[.pointer q, sv k] w fun e w' => e = .returned (.tuple #[sv [], .bool false]) ∧ w' = w := by
  have HM : Hid (∀ W, Below w.heap.size w W → Calls Tryd.prog 37 #[.pointer q] W fun e w' => e = .returned (.bool false) ∧ w' = W) := hidb fun W hW => smade_no q W (h.below hW)
  have HB := hidb (Below.refl w.heap.size w)
  clear h
  go_enter Tryd.func10, Tryd.ntmps10
  go_wp2_with (first
    | (go_at_call 37; refine (HM.out _ (by first | exact HB.out | exact HB.out.alloc (Nat.le_refl _) _ | exact (HB.out.alloc (Nat.le_refl _) _).alloc (by simp) _)).mono ?_; clear HM; rintro e w1 ⟨rfl, rfl⟩)
    | fail)
  go_ret2
  exact ⟨rfl, rfl⟩
set_option maxRecDepth 100000 in
theorem sdel_no (q : Option Addr) (k : Bt) (w : World) (h : Unm q w) : Calls Tryd.prog 15 #[.pointer q, sv k] w fun e w' => e = .returned (.bool false) ∧ w' = w := by
  have HM : Hid (∀ W, Below w.heap.size w W → Calls Tryd.prog 37 #[.pointer q] W fun e w' => e = .returned (.bool false) ∧ w' = W) := hidb fun W hW => smade_no q W (h.below hW)
  have HB := hidb (Below.refl w.heap.size w)
  clear h
  go_enter Tryd.func15, Tryd.ntmps15
  go_wp2_with (first
    | (go_at_call 37; refine (HM.out _ (by first | exact HB.out | exact HB.out.alloc (Nat.le_refl _) _ | exact (HB.out.alloc (Nat.le_refl _) _).alloc (by simp) _)).mono ?_; clear HM; rintro e w1 ⟨rfl, rfl⟩)
    | fail)
  go_ret
  exact ⟨rfl, rfl⟩
set_option maxRecDepth 100000 in
theorem slen_no (q : Option Addr) (w : World) (h : Unm q w) : Calls Tryd.prog 16 #[.pointer q] w fun e w' => e = .returned (.int .i64 0) ∧ w' = w := by
  have HM : Hid (∀ W, Below w.heap.size w W → Calls Tryd.prog 37 #[.pointer q] W fun e w' => e = .returned (.bool false) ∧ w' = W) := hidb fun W hW => smade_no q W (h.below hW)
  have HB := hidb (Below.refl w.heap.size w)
  clear h
  go_enter Tryd.func16, Tryd.ntmps16
  go_wp2_with (first
    | (go_at_call 37; refine (HM.out _ (by first | exact HB.out | exact HB.out.alloc (Nat.le_refl _) _ | exact (HB.out.alloc (Nat.le_refl _) _).alloc (by simp) _)).mono ?_; clear HM; rintro e w1 ⟨rfl, rfl⟩)
    | fail)
  go_ret
  exact ⟨rfl, rfl⟩
set_option maxRecDepth 100000 in
theorem shash_no (q : Option Addr) (w : World) (h : Unm q w) : Calls Tryd.prog 17 #[.pointer q] w fun e w' => e = .returned (.int .i64 0) ∧ w' = w := by
  have HM : Hid (∀ W, Below w.heap.size w W → Calls Tryd.prog 37 #[.pointer q] W fun e w' => e = .returned (.bool false) ∧ w' = W) := hidb fun W hW => smade_no q W (h.below hW)
  have HB := hidb (Below.refl w.heap.size w)
  clear h
  go_enter Tryd.func17, Tryd.ntmps17
  go_wp2_with (first
    | (go_at_call 37; refine (HM.out _ (by first | exact HB.out | exact HB.out.alloc (Nat.le_refl _) _ | exact (HB.out.alloc (Nat.le_refl _) _).alloc (by simp) _)).mono ?_; clear HM; rintro e w1 ⟨rfl, rfl⟩)
    | fail)
  go_ret
  exact ⟨rfl, rfl⟩
set_option maxRecDepth 100000 in
theorem sclone_no (q : Option Addr) (w : World) (h : Unm q w) : Calls Tryd.prog 24 #[.pointer q] w fun e w' => e = .returned (.pointer none) ∧ w' = w := by
  have HM : Hid (∀ W, Below w.heap.size w W → Calls Tryd.prog 37 #[.pointer q] W fun e w' => e = .returned (.bool false) ∧ w' = W) := hidb fun W hW => smade_no q W (h.below hW)
  have HB := hidb (Below.refl w.heap.size w)
  clear h
  go_enter Tryd.func24, Tryd.ntmps24
  go_wp2_with (first
    | (go_at_call 37; refine (HM.out _ (by first | exact HB.out | exact HB.out.alloc (Nat.le_refl _) _ | exact (HB.out.alloc (Nat.le_refl _) _).alloc (by simp) _)).mono ?_; clear HM; rintro e w1 ⟨rfl, rfl⟩)
    | fail)
  go_ret
  exact ⟨rfl, rfl⟩
set_option maxRecDepth 100000 in
theorem begin_no (q : Option Addr) (w : World) (h : Unm q w) : Calls Tryd.prog 25 #[.pointer q] w fun e w' => e = .returned (.pointer none) ∧ w' = w := by
  have HM : Hid (∀ W, Below w.heap.size w W → Calls Tryd.prog 37 #[.pointer q] W fun e w' => e = .returned (.bool false) ∧ w' = W) := hidb fun W hW => smade_no q W (h.below hW)
  have HB := hidb (Below.refl w.heap.size w)
  clear h
  go_enter Tryd.func25, Tryd.ntmps25
  go_wp2_with (first
    | (go_at_call 37; refine (HM.out _ (by first | exact HB.out | exact HB.out.alloc (Nat.le_refl _) _ | exact (HB.out.alloc (Nat.le_refl _) _).alloc (by simp) _)).mono ?_; clear HM; rintro e w1 ⟨rfl, rfl⟩)
    | fail)
  go_ret
  exact ⟨rfl, rfl⟩
set_option maxRecDepth 100000 in
theorem sbytes_no (q : Option Addr) (w : World) (h : Unm q w) : Calls Tryd.prog 18 #[.pointer q] w fun e w' => e = .returned (.slice none 0 0) ∧ Below w.heap.size w w' := by
  have HM : Hid (∀ W, Below w.heap.size w W → Calls Tryd.prog 37 #[.pointer q] W fun e w' => e = .returned (.bool false) ∧ w' = W) := hidb fun W hW => smade_no q W (h.below hW)
  have HB := hidb (Below.refl w.heap.size w)
  clear h
  go_enter Tryd.func18, Tryd.ntmps18
  go_wp2_with (first
    | (go_at_call 37; refine (HM.out _ (by first | exact HB.out | exact HB.out.alloc (Nat.le_refl _) _ | exact (HB.out.alloc (Nat.le_refl _) _).alloc (by simp) _)).mono ?_; clear HM; rintro e w1 ⟨rfl, rfl⟩)
    | fail)
  go_ret
  exact ⟨rfl, by first | exact HB.out | exact HB.out.alloc (Nat.le_refl _) _ | exact (HB.out.alloc (Nat.le_refl _) _).alloc (by simp) _⟩
set_option maxRecDepth 100000 in
theorem sscan_no (q : Option Addr) (k v : Bt) (m : Int) (w : World) (h : Unm q w) : Calls Tryd.prog 19 #[.pointer q, sv k, sv v, .int .i64 m] w fun e w' => e = .returned (.slice none 0 0) ∧ Below w.heap.size w w' := by
  have HM : Hid (∀ W, Below w.heap.size w W → Calls Tryd.prog 37 #[.pointer q] W fun e w' => e = .returned (.bool false) ∧ w' = W) := hidb fun W hW => smade_no q W (h.below hW)
  have HB := hidb (Below.refl w.heap.size w)
  clear h
  go_enter Tryd.func19, Tryd.ntmps19
  go_wp2_with (first
    | (go_at_call 37; refine (HM.out _ (by first | exact HB.out | exact HB.out.alloc (Nat.le_refl _) _ | exact (HB.out.alloc (Nat.le_refl _) _).alloc (by simp) _)).mono ?_; clear HM; rintro e w1 ⟨rfl, rfl⟩)
    | fail)
  go_ret
  exact ⟨rfl, by first | exact HB.out | exact HB.out.alloc (Nat.le_refl _) _ | exact (HB.out.alloc (Nat.le_refl _) _).alloc (by simp) _⟩
set_option maxRecDepth 100000 in
theorem xload_no (q : Option Addr) (k : Bt) (w : World) (h : Unm q w) : Calls Tryd.prog 11 #[.pointer q, sv k] w fun e w' => e = .returned (.tuple #[sv [], .bool false]) ∧ w' = w := by
  have HM : Hid (∀ W, Below w.heap.size w W → Calls Tryd.prog 40 #[.pointer q] W fun e w' => e = .returned (.bool false) ∧ w' = W) := hidb fun W hW => xmade_no q W (h.below hW)
  have HB := hidb (Below.refl w.heap.size w)
  clear h
  go_enter Tryd.func11, Tryd.ntmps11
  go_wp2_with (first
    | (go_at_call 40; refine (HM.out _ (by first | exact HB.out | exact HB.out.alloc (Nat.le_refl _) _ | exact (HB.out.alloc (Nat.le_refl _) _).alloc (by simp) _)).mono ?_; clear HM; rintro e w1 ⟨rfl, rfl⟩)
    | fail)
  go_ret2
  exact ⟨rfl, rfl⟩
set_option maxRecDepth 100000 in
theorem xnext_no (q : Option Addr) (k : Bt) (w : World) (h : Unm q w) : Calls Tryd.prog 12 #[.pointer q, sv k] w fun e w' => e = .returned (.tuple #[sv [], .bool false]) ∧ w' = w := by
  have HM : Hid (∀ W, Below w.heap.size w W → Calls Tryd.prog 40 #[.pointer q] W fun e w' => e = .returned (.bool false) ∧ w' = W) := hidb fun W hW => xmade_no q W (h.below hW)
  have HB := hidb (Below.refl w.heap.size w)
  clear h
  go_enter Tryd.func12, Tryd.ntmps12
  go_wp2_with (first
    | (go_at_call 40; refine (HM.out _ (by first | exact HB.out | exact HB.out.alloc (Nat.le_refl _) _ | exact (HB.out.alloc (Nat.le_refl _) _).alloc (by simp) _)).mono ?_; clear HM; rintro e w1 ⟨rfl, rfl⟩)
    | fail)
  go_ret2
  exact ⟨rfl, rfl⟩
set_option maxRecDepth 100000 in
theorem xsave_no (q : Option Addr) (k v : Bt) (w : World) (h : Unm q w) : Calls Tryd.prog 21 #[.pointer q, sv k, sv v] w fun e w' => e = .returned (.int .i64 1) ∧ w' = w := by
  have HM : Hid (∀ W, Below w.heap.size w W → Calls Tryd.prog 40 #[.pointer q] W fun e w' => e = .returned (.bool false) ∧ w' = W) := hidb fun W hW => xmade_no q W (h.below hW)
  have HB := hidb (Below.refl w.heap.size w)
  clear h
  go_enter Tryd.func21, Tryd.ntmps21
  go_wp2_with (first
    | (go_at_call 40; refine (HM.out _ (by first | exact HB.out | exact HB.out.alloc (Nat.le_refl _) _ | exact (HB.out.alloc (Nat.le_refl _) _).alloc (by simp) _)).mono ?_; clear HM; rintro e w1 ⟨rfl, rfl⟩)
    | fail)
  go_ret
  exact ⟨rfl, rfl⟩
set_option maxRecDepth 100000 in
theorem xwipe_no (q : Option Addr) (k : Bt) (w : World) (h : Unm q w) : Calls Tryd.prog 22 #[.pointer q, sv k] w fun e w' => e = .returned (.int .i64 1) ∧ w' = w := by
  have HM : Hid (∀ W, Below w.heap.size w W → Calls Tryd.prog 40 #[.pointer q] W fun e w' => e = .returned (.bool false) ∧ w' = W) := hidb fun W hW => xmade_no q W (h.below hW)
  have HB := hidb (Below.refl w.heap.size w)
  clear h
  go_enter Tryd.func22, Tryd.ntmps22
  go_wp2_with (first
    | (go_at_call 40; refine (HM.out _ (by first | exact HB.out | exact HB.out.alloc (Nat.le_refl _) _ | exact (HB.out.alloc (Nat.le_refl _) _).alloc (by simp) _)).mono ?_; clear HM; rintro e w1 ⟨rfl, rfl⟩)
    | fail)
  go_ret
  exact ⟨rfl, rfl⟩
set_option maxRecDepth 100000 in
theorem xcommit_no (q : Option Addr) (w : World) (h : Unm q w) : Calls Tryd.prog 23 #[.pointer q] w fun e w' => e = .returned (.int .i64 1) ∧ w' = w := by
  have HM : Hid (∀ W, Below w.heap.size w W → Calls Tryd.prog 40 #[.pointer q] W fun e w' => e = .returned (.bool false) ∧ w' = W) := hidb fun W hW => xmade_no q W (h.below hW)
  have HB := hidb (Below.refl w.heap.size w)
  clear h
  go_enter Tryd.func23, Tryd.ntmps23
  go_wp2_with (first
    | (go_at_call 40; refine (HM.out _ (by first | exact HB.out | exact HB.out.alloc (Nat.le_refl _) _ | exact (HB.out.alloc (Nat.le_refl _) _).alloc (by simp) _)).mono ?_; clear HM; rintro e w1 ⟨rfl, rfl⟩)
    | fail)
  go_ret
  exact ⟨rfl, rfl⟩
set_option maxRecDepth 100000 in
theorem xchanges_no (q : Option Addr) (w : World) (h : Unm q w) : Calls Tryd.prog 20 #[.pointer q] w fun e w' => e = .returned (.slice none 0 0) ∧ Below w.heap.size w w' := by
  have HM : Hid (∀ W, Below w.heap.size w W → Calls Tryd.prog 40 #[.pointer q] W fun e w' => e = .returned (.bool false) ∧ w' = W) := hidb fun W hW => xmade_no q W (h.below hW)
  have HB := hidb (Below.refl w.heap.size w)
  clear h
  go_enter Tryd.func20, Tryd.ntmps20
  go_wp2_with (first
    | (go_at_call 40; refine (HM.out _ (by first | exact HB.out | exact HB.out.alloc (Nat.le_refl _) _ | exact (HB.out.alloc (Nat.le_refl _) _).alloc (by simp) _)).mono ?_; clear HM; rintro e w1 ⟨rfl, rfl⟩)
    | fail)
  go_ret
  exact ⟨rfl, by first | exact HB.out | exact HB.out.alloc (Nat.le_refl _) _ | exact (HB.out.alloc (Nat.le_refl _) _).alloc (by simp) _⟩
end Go.Proofs.YticihfbhnbkjjaaDoor
