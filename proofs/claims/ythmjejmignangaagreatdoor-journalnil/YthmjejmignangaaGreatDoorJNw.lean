/- Layer 16: names that are too long. -/
import Derived.Test.YthmjejmignangaaGreatDoorJNl
namespace Go.Proofs.YthmjejmignangaaGreatDoor
open Go.RowKit
theorem long_no (b : Bt) (h : 16 < b.length) : nameB b = false := by simp [nameB]; omega
theorem isName_long (b : Bt) (h : 16 < b.length) (hb : b.length ≤ 9223372036854775807) (w : World) : Calls Tryz.prog 76 #[sv b] w fun e w' => e = .returned (.bool false) ∧ w' = w := by
  have h1 : ¬ b.length < 1 := by omega
  go_enter Tryz.func76, Tryz.ntmps76
  go_wp2_with fail
  go_ret
  exact ⟨rfl, rfl⟩
set_option maxRecDepth 100000 in
theorem dwrite_long {K : Nat → Prop} {db : Nat} {d : Dk} {w : World} (h : DkAt K db d w) (ho : d.off = false) (name : Bt) (hl : 16 < name.length) (hb : name.length ≤ 9223372036854775807) : Calls Tryz.prog 55 #[.pointer (some ⟨db, 0, none⟩), sv name, .int .i64 0, .string ⟨#[]⟩] w fun e w' => e = .returned (.int .i64 1) ∧ w' = w := by
  obtain ⟨vb, fsv, zs, h1, h2, h3, h4⟩ := h
  have cd := h1.cd
  have HR := hidb (ready15_any h1)
  rw [ho] at HR
  simp only [Bool.false_eq_true, if_false] at HR
  have HN := hidb (isName_long name hl hb w)
  clear h1 h2 h3 h4 hl
  go_enter Tryz.func55, Tryz.ntmps55
  go_wp2_with (first
    | (go_at_call 56; refine HR.out.mono ?_; clear HR; rintro e w1 ⟨rfl, rfl⟩)
    | (go_at_call 76; refine HN.out.mono ?_; clear HN; rintro e w1 ⟨rfl, rfl⟩)
    | fail)
  go_ret
  exact ⟨rfl, rfl⟩
theorem isName_long16 (file : Bt) (h : 16 < file.length) (hf : file.length ≤ 9223372036854775807) (w : World) : Calls Tryz.prog 28 #[sv file] w fun e w' => e = .returned (.bool false) ∧ Below w.heap.size w w' := by
  have HN := hidb (new15_yes 1 w (by omega) (by omega))
  have HW : Hid (∀ V db, Hid (DkAt (fun k => k < w.heap.size) db (newD 1) V ∧ Below w.heap.size w V) → Calls Tryz.prog 55 #[.pointer (some ⟨db, 0, none⟩), sv file, .int .i64 0, .string ⟨#[]⟩] V fun e w' => e = .returned (.int .i64 1) ∧ Below w.heap.size w w') := hidb fun V db hh =>
    (dwrite_long hh.out.1 rfl file h hf).mono fun e w' ⟨h1, h2⟩ => ⟨h1, by rw [h2]; exact hh.out.2⟩
  clear h
  go_enter Tryz.func28, Tryz.ntmps28
  go_wp2_with (first
    | (go_at_call 36; refine HN.out.mono ?_; clear HN; rintro e V ⟨db, rfl, h⟩)
    | (go_at_call 55; refine (HW.out _ _ h).mono ?_; clear HW; rintro e V2 ⟨rfl, hb2⟩)
    | fail)
  go_ret
  exact ⟨rfl, hb2⟩
theorem open_long16 (q : Option Addr) (file : Bt) (h : 16 < file.length) (hf : file.length ≤ 9223372036854775807) (w : World) : Calls Tryz.prog 12 #[.pointer q, sv file] w fun e w' => e = .returned (.tuple #[.pointer none, .slice none 0 0, .int .i64 1]) ∧ Below w.heap.size w w' := by
  have HI := hidb (isName_long16 file h hf w)
  clear h
  go_enter Tryz.func12, Tryz.ntmps12
  go_wp2_with (first
    | (go_at_call 28; refine HI.out.mono ?_; clear HI; rintro e W1 ⟨rfl, hb1⟩)
    | fail)
  refine bodyPost_ret (results_tmp3 rfl _ _ _) rfl ?_
  exact ⟨rfl, hb1⟩
/-- Open of a new disk, at any name. -/
theorem open_fresh16 (file : Bt) (hf : file.length ≤ 9223372036854775807) (w : World) {db : Nat} {V : World} (h : DkAt (fun k => k < w.heap.size) db (newD 10) V) (hb : Below w.heap.size w V) : Calls Tryz.prog 12 #[.pointer (some ⟨db, 0, none⟩), sv file] V fun e w' => ∃ q a n c, e = .returned (.tuple #[.pointer q, .slice a n c, .int .i64 (if nameB file = false then 1 else 0)]) ∧ Hid (Below w.heap.size w w') ∧ (nameB file = false ↔ q = none) := by
  by_cases hl : file.length ≤ 16
  · exact open_new16 file (by omega) w h hb
  · have hn := long_no file (by omega)
    refine (open_long16 _ file (by omega) hf V).mono fun e w' ⟨h1, h2⟩ => ⟨none, none, 0, 0, by rw [h1, if_pos hn], hidb (hb.trans (h2.mono hb.size)), ?_⟩
    simp [hn]
end Go.Proofs.YthmjejmignangaaGreatDoor
