/- Layer 16: no disk, no journal, and those that nobody made; names that may not be. -/
import Derived.Test.YthmjejmignangaaGreatDoorJKn
namespace Go.Proofs.YthmjejmignangaaGreatDoor
open Go.RowKit
/-- One that nobody made. -/
def Unm16 (q : Option Addr) (w : World) : Prop := q = none ∨ ∃ b, b < w.heap.size ∧ q = some ⟨b, 0, none⟩ ∧ w.cell? ⟨b, 0, none⟩ = some (.pointer none)
theorem Unm16.below {q : Option Addr} {w w' : World} (h : Unm16 q w) (k : Below w.heap.size w w') : Unm16 q w' := by
  rcases h with h | ⟨b, h0, h1, h2⟩
  · exact .inl h
  · exact .inr ⟨b, Nat.lt_of_lt_of_le h0 k.size, h1, (k.cell (p := ⟨b, 0, none⟩) h0).trans h2⟩
theorem made_no16 (q : Option Addr) (w : World) (h : Unm16 q w) : Calls Tryz.prog 43 #[.pointer q] w fun e w' => e = .returned (.bool false) ∧ w' = w := by
  rcases h with rfl | ⟨b, h0, rfl, c⟩ <;>
  · go_enter Tryz.func43, Tryz.ntmps43
    go_wp2_with fail
    go_ret
    exact ⟨rfl, rfl⟩
theorem ready_no16 (q : Option Addr) (w : World) (h : Unm16 q w) : Calls Tryz.prog 56 #[.pointer q] w fun e w' => e = .returned (.int .i64 1) ∧ w' = w := by
  have HM := hidb (made_no16 q w h)
  clear h
  go_enter Tryz.func56, Tryz.ntmps56
  go_wp2_with (first | (go_at_call 43; refine HM.out.mono ?_; clear HM; rintro e w1 ⟨rfl, rfl⟩) | fail)
  go_ret
  exact ⟨rfl, rfl⟩
set_option maxRecDepth 100000 in
theorem read_no16 (q : Option Addr) (s : Bt) (w : World) (h : Unm16 q w) : Calls Tryz.prog 29 #[.pointer q, sv s] w fun e w' => e = .returned (.tuple #[.slice none 0 0, .int .i64 1]) ∧ w' = w := by
  have HM := hidb (ready_no16 q w h)
  clear h
  go_enter Tryz.func29, Tryz.ntmps29
  go_wp2_with (first | (go_at_call 56; refine HM.out.mono ?_; clear HM; rintro e w1 ⟨rfl, rfl⟩) | fail)
  go_ret2
  exact ⟨rfl, rfl⟩
theorem jmade_no16 (q : Option Addr) (w : World) (h : Unm16 q w) : Calls Tryz.prog 32 #[.pointer q] w fun e w' => e = .returned (.bool false) ∧ w' = w := by
  rcases h with rfl | ⟨b, h0, rfl, c⟩ <;>
  · go_enter Tryz.func32, Tryz.ntmps32
    go_wp2_with fail
    go_ret
    exact ⟨rfl, rfl⟩
theorem jappend_no16 (q a : Option Addr) (n c : Nat) (w : World) (h : Unm16 q w) : Calls Tryz.prog 14 #[.pointer q, .slice a n c] w fun e w' => e = .returned (.int .i64 1) ∧ w' = w := by
  have HM := hidb (jmade_no16 q w h)
  clear h
  go_enter Tryz.func14, Tryz.ntmps14
  go_wp2_with (first | (go_at_call 32; refine HM.out.mono ?_; clear HM; rintro e w1 ⟨rfl, rfl⟩) | fail)
  go_ret
  exact ⟨rfl, rfl⟩
theorem jsync_no16 (q : Option Addr) (w : World) (h : Unm16 q w) : Calls Tryz.prog 15 #[.pointer q] w fun e w' => e = .returned (.int .i64 1) ∧ w' = w := by
  have HM := hidb (jmade_no16 q w h)
  clear h
  go_enter Tryz.func15, Tryz.ntmps15
  go_wp2_with (first | (go_at_call 32; refine HM.out.mono ?_; clear HM; rintro e w1 ⟨rfl, rfl⟩) | fail)
  go_ret
  exact ⟨rfl, rfl⟩
theorem jlen_no16 (q : Option Addr) (w : World) (h : Unm16 q w) : Calls Tryz.prog 16 #[.pointer q] w fun e w' => e = .returned (.int .i64 0) ∧ w' = w := by
  have HM := hidb (jmade_no16 q w h)
  clear h
  go_enter Tryz.func16, Tryz.ntmps16
  go_wp2_with (first | (go_at_call 32; refine HM.out.mono ?_; clear HM; rintro e w1 ⟨rfl, rfl⟩) | fail)
  go_ret
  exact ⟨rfl, rfl⟩
theorem jepoch_no16 (q : Option Addr) (w : World) (h : Unm16 q w) : Calls Tryz.prog 17 #[.pointer q] w fun e w' => e = .returned (.int .i64 0) ∧ w' = w := by
  have HM := hidb (jmade_no16 q w h)
  clear h
  go_enter Tryz.func17, Tryz.ntmps17
  go_wp2_with (first | (go_at_call 32; refine HM.out.mono ?_; clear HM; rintro e w1 ⟨rfl, rfl⟩) | fail)
  go_ret
  exact ⟨rfl, rfl⟩
set_option maxRecDepth 100000 in
theorem open_no16 (q : Option Addr) (w : World) (h : Unm16 q w) : Calls Tryz.prog 12 #[.pointer q, .string ⟨#[108, 111, 103]⟩] w fun e w' => e = .returned (.tuple #[.pointer none, .slice none 0 0, .int .i64 1]) ∧ Below w.heap.size w w' := by
  have HI := hidb (isName_any16 fL (by decide) w)
  rw [kn_name] at HI
  have HR : Hid (∀ V, Below w.heap.size w V → _) := hidb fun V hV => read_no16 q fL V (h.below hV)
  clear h
  go_enter Tryz.func12, Tryz.ntmps12
  go_wp2_with (first
    | (go_at_call 28; refine HI.out.mono ?_; clear HI; rintro e W1 ⟨rfl, hb1⟩)
    | (go_at_call 29; refine (HR.out _ hb1).mono ?_; clear HR; rintro e W2 ⟨rfl, e2⟩; obtain rfl := e2.symm)
    | fail)
  refine bodyPost_ret (results_tmp3 rfl _ _ _) rfl ?_
  exact ⟨rfl, hb1⟩
theorem open_name16 (q : Option Addr) (file : Bt) (hf : file.length ≤ 281474976710656) (hn : nameB file = false) (w : World) : Calls Tryz.prog 12 #[.pointer q, sv file] w fun e w' => e = .returned (.tuple #[.pointer none, .slice none 0 0, .int .i64 1]) ∧ Below w.heap.size w w' := by
  have HI := hidb (isName_any16 file hf w)
  rw [hn] at HI
  go_enter Tryz.func12, Tryz.ntmps12
  go_wp2_with (first
    | (go_at_call 28; refine HI.out.mono ?_; clear HI; rintro e W1 ⟨rfl, hb1⟩)
    | fail)
  refine bodyPost_ret (results_tmp3 rfl _ _ _) rfl ?_
  exact ⟨rfl, hb1⟩
theorem opE_new16 (file : Bt) : readE (newD 10) file = 3 ∧ opE (newD 10) file = 3 ∧ readL (newD 10) file = [] := by
  have h : readE (newD 10) file = 3 := by
    unfold readE newD
    simp [fileOf]
  have h2 : readL (newD 10) file = [] := by
    unfold readL newD
    simp [fileOf]
  exact ⟨h, by unfold opE; rw [h]; rfl, h2⟩
/-- Open of a new disk. -/
theorem open_new16 (file : Bt) (hf : file.length ≤ 281474976710656) (w : World) {db : Nat} {V : World} (h : DkAt (fun k => k < w.heap.size) db (newD 10) V) (hb : Below w.heap.size w V) : Calls Tryz.prog 12 #[.pointer (some ⟨db, 0, none⟩), sv file] V fun e w' => ∃ q a n c, e = .returned (.tuple #[.pointer q, .slice a n c, .int .i64 (if nameB file = false then 1 else 0)]) ∧ Hid (Below w.heap.size w w') ∧ (nameB file = false ↔ q = none) := by
  by_cases hn : nameB file = false
  · refine (open_name16 _ file hf hn V).mono fun e w' ⟨h1, h2⟩ => ⟨none, none, 0, 0, by rw [h1, if_pos hn], hidb (hb.trans (h2.mono hb.size)), ?_⟩
    simp [hn]
  · obtain ⟨e1, e2, e3⟩ := opE_new16 file
    refine (open_any16 h file hf (by simpa using hn) (by rw [e3]; simp)).mono fun e w' h4 => ?_
    rcases h4 with ⟨_, h3, _⟩ | ⟨_, z, jb, lb, a, n, c, cs, q1, q2, q3, rfl, hH⟩
    · exact absurd e2 h3
    obtain ⟨p1, p2, p3, p4, p5⟩ := hH.out
    exact ⟨_, a, n, c, by rw [if_neg hn], hidb (hb.trans (Kt.low p5 hb.size fun i hi hn => hn hi)), by simp [hn]⟩
end Go.Proofs.YthmjejmignangaaGreatDoor
