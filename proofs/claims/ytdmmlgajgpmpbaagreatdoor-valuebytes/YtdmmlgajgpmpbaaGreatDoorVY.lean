/- value.putOne. -/
import Derived.Test.YtdmmlgajgpmpbaaGreatDoorVAll
import Derived.Test.YtdmmlgajgpmpbaaGreatDoorNums
namespace Go.Proofs.YtdmmlgajgpmpbaaGreatDoor
open Go.RowKit
attribute [local go_sem high] eq_val eq_val0
/-- The bytes of one value that may be. -/
def encV (x : Val) : List UInt8 := if x.t = 1 then [1] ++ be64 x.n else if x.t = 2 then [2] ++ text x.b else [3] ++ [UInt8.ofNat x.n.toNat]
theorem enc_len (x : Val) (h : x.b.length ≤ 256) : (encV x).length ≤ 259 := by
  unfold encV
  split
  · simp [be64_length]
  split
  · simp [text_length]; omega
  · simp
/-- How a write ends. -/
def Wrote (p h base : Nat) (v : Value) (bs : List UInt8) (w : World) (r : Value) (e : Ending) (w' : World) : Prop := ∃ v', e = .returned r ∧ WrE w' p h v' 0 ∧ OwnB w' base v' bs ∧ WStep h w v w' v'
theorem WrE.box {w : World} {p h base : Nat} {v : Value} {bs : List UInt8} (H : WrE w p h v 0) (hO : OwnB w base v bs) : ¬ WSet h v w.heap.size := fun e => by
  rcases e with e | e
  · have := lt_of_block H.hh; omega
  · have := (hO.lt _ e).2; omega
theorem right_cases {x : Val} (h : x.right = true) : (x.t = 1 ∧ x.b = []) ∨ (x.t = 2 ∧ x.n = 0 ∧ x.b.length ≤ 256) ∨ (x.t = 3 ∧ (x.n = 0 ∨ x.n = 1) ∧ x.b = []) := by
  unfold Val.right at h
  by_cases h1 : x.t = 1
  · rw [if_pos h1] at h
    exact .inl ⟨h1, by simpa using h⟩
  · rw [if_neg h1] at h
    by_cases h2 : x.t = 2
    · rw [if_pos h2] at h
      exact .inr (.inl ⟨h2, by simpa using h⟩)
    · rw [if_neg h2] at h
      by_cases h3 : x.t = 3
      · rw [if_pos h3] at h
        exact .inr (.inr ⟨h3, by simpa using h⟩)
      · rw [if_neg h3] at h
        cases h
set_option maxRecDepth 100000 in
set_option maxHeartbeats 1000000 in
theorem putOne_any (p h base : Nat) (v : Value) (bs : List UInt8) (x : Val) (w : World) (H : WrE w p h v 0) (hO : OwnB w base v bs) (hbase : base ≤ w.heap.size) (hx : x.right = true) (hroom : bs.length + 300 ≤ 1048576) : Calls Tryz.prog 20 #[.pointer (some ⟨p, 0, none⟩), x.v] w (Wrote p h base v (bs ++ encV x) w (.tuple #[])) := by
  have hnew := H.box hO
  have H0 := H.chg (Chg.alloc w x.box (fun _ => False)) id id
  have hO0 : OwnB (w.alloc x.box) base v bs := Own.alloc hO _
  have hv0 := val_new w x
  have hB : ∀ (t : UInt8) (T : Int), T = (t.toNat : Nat) → Calls Tryz.prog 19 #[.pointer (some ⟨p, 0, none⟩), .slice (some ⟨w.heap.size + 1, 0, none⟩) 1 1] ((w.alloc x.box).alloc (.cells #[.int .i64 T] 3)) (Wrote p h base v (bs ++ [t]) (w.alloc x.box) (.int .i64 0)) := fun t T hT => by
    rw [hT]
    exact byte_one p h base (w.heap.size + 1) v bs t (w.alloc x.box) (by simp) H0 hO0 (by simp; omega) (by omega)
  rcases right_cases hx with ⟨ht, hb⟩ | ⟨ht, hn, hb⟩ | ⟨ht, hn, hb⟩
  · obtain ⟨t, n, b⟩ := x
    simp only at ht hb
    subst ht hb
    have hfin : ∀ (w1 w2 : World) (v1 v2 : Value), WStep h (w.alloc (Val.box ⟨1, n, []⟩)) v w1 v1 → WrE w2 p h v2 0 → OwnB w2 base v2 (bs ++ [1] ++ be64 n) → WStep h w1 v1 w2 v2 → Wrote p h base v (bs ++ encV ⟨1, n, []⟩) w (.tuple #[]) (.returned (.tuple #[])) w2 := fun w1 w2 v1 v2 s1 a1 a2 s2 => ⟨v2, rfl, a1, by simpa [encV] using a2, ((WStep.alloc h w v _).trans s1).trans s2⟩
    generalize hE : bs ++ encV ⟨1, n, []⟩ = E at hfin ⊢
    clear hE
    simp only [Val.v] at *
    go_enter Tryz.func20, Tryz.ntmps20
    go_wp2_with (first | (go_at_call 19; first | (refine (hB 1 1 rfl).mono ?_; rintro e w1 ⟨v1, rfl, H1, hO1, hs1⟩; have hv1 : ValAt w1 w.heap.size ⟨1, n, []⟩ := ⟨hs1.1.cell hv0.1 hnew, hs1.1.cell hv0.2.1 hnew, hs1.1.cell hv0.2.2 hnew⟩; obtain ⟨c0, c1, c2⟩ := hv1; have hl1 := World.block_lt_of_cell? _ _ c0; simp only at hl1; clear hB) | fail) | (go_at_call 43; refine (int_one p h base w1.heap.size v1 _ n w1 rfl H1 hO1 (by omega) (by simp; omega)).mono ?_; rintro e w2 ⟨v2, rfl, H2, hO2, hs2⟩))
    go_end0
    exact hfin w1 w2 v1 v2 hs1 H2 hO2 hs2
  · obtain ⟨t, n, b⟩ := x
    simp only at ht hn hb
    subst ht hn
    have hfin : ∀ (w1 w2 : World) (v1 v2 : Value), WStep h (w.alloc (Val.box ⟨2, 0, b⟩)) v w1 v1 → WrE w2 p h v2 0 → OwnB w2 base v2 (bs ++ [2] ++ text b) → WStep h w1 v1 w2 v2 → Wrote p h base v (bs ++ encV ⟨2, 0, b⟩) w (.tuple #[]) (.returned (.tuple #[])) w2 := fun w1 w2 v1 v2 s1 a1 a2 s2 => ⟨v2, rfl, a1, by simpa [encV] using a2, ((WStep.alloc h w v _).trans s1).trans s2⟩
    generalize hE : bs ++ encV ⟨2, 0, b⟩ = E at hfin ⊢
    clear hE
    simp only [Val.v] at *
    go_enter Tryz.func20, Tryz.ntmps20
    go_wp2_with (first | (go_at_call 19; first | (refine (hB 2 2 rfl).mono ?_; rintro e w1 ⟨v1, rfl, H1, hO1, hs1⟩; have hv1 : ValAt w1 w.heap.size ⟨2, 0, b⟩ := ⟨hs1.1.cell hv0.1 hnew, hs1.1.cell hv0.2.1 hnew, hs1.1.cell hv0.2.2 hnew⟩; obtain ⟨c0, c1, c2⟩ := hv1; have hl1 := World.block_lt_of_cell? _ _ c0; simp only at hl1; clear hB) | fail) | (go_at_call 44; refine (text_one p h base w1.heap.size v1 _ b w1 rfl H1 hO1 (by omega) (by omega) (by simp; omega)).mono ?_; rintro e w2 ⟨v2, rfl, H2, hO2, hs2⟩))
    go_end0
    exact hfin w1 w2 v1 v2 hs1 H2 hO2 hs2
  · obtain ⟨t, n, b⟩ := x
    simp only at ht hn hb
    subst ht hb
    obtain ⟨c, rfl, hc⟩ : ∃ c : UInt8, n = (c.toNat : Int) ∧ UInt8.ofNat n.toNat = c := by
      rcases hn with rfl | rfl
      · exact ⟨0, rfl, rfl⟩
      · exact ⟨1, rfl, rfl⟩
    have hfin : ∀ (w1 w2 : World) (v1 v2 : Value), WStep h (w.alloc (Val.box ⟨3, (c.toNat : Int), []⟩)) v w1 v1 → WrE w2 p h v2 0 → OwnB w2 base v2 (bs ++ [3] ++ [c]) → WStep h w1 v1 w2 v2 → Wrote p h base v (bs ++ encV ⟨3, (c.toNat : Int), []⟩) w (.tuple #[]) (.returned (.tuple #[])) w2 := fun w1 w2 v1 v2 s1 a1 a2 s2 => ⟨v2, rfl, a1, by simpa [encV, hc] using a2, ((WStep.alloc h w v _).trans s1).trans s2⟩
    generalize hE : bs ++ encV ⟨3, (c.toNat : Int), []⟩ = E at hfin ⊢
    clear hE
    simp only [Val.v] at *
    go_enter Tryz.func20, Tryz.ntmps20
    go_wp2_with (first | (go_at_call 19; first | (refine (hB 3 3 rfl).mono ?_; rintro e w1 ⟨v1, rfl, H1, hO1, hs1⟩; have hv1 : ValAt w1 w.heap.size ⟨3, (c.toNat : Int), []⟩ := ⟨hs1.1.cell hv0.1 hnew, hs1.1.cell hv0.2.1 hnew, hs1.1.cell hv0.2.2 hnew⟩; obtain ⟨c0, c1, c2⟩ := hv1; have hl1 := World.block_lt_of_cell? _ _ c0; simp only at hl1; clear hB) | (refine (byte_one p h base w1.heap.size v1 _ c w1 rfl H1 hO1 (by omega) (by simp; omega)).mono ?_; rintro e w2 ⟨v2, rfl, H2, hO2, hs2⟩)) | fail)
    go_end0
    exact hfin w1 w2 v1 v2 hs1 H2 hO2 hs2
end Go.Proofs.YtdmmlgajgpmpbaaGreatDoor
