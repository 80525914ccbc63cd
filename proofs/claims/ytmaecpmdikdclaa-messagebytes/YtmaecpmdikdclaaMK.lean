/- Layer 17: logs are written. -/
import Derived.Test.YtmaecpmdikdclaaMW
import Derived.Test.YtmaecpmdikdclaaMD
namespace Go.Proofs.Ytmaecpmdikdclaa
open Go.RowKit
theorem textW1 (w0 W : World) (v : Value) (bs : List UInt8) (M : MineW w0 W v bs) (B : Nat) (x : List UInt8) (hB : W.heap.size = B) (hx : x.length ≤ 65535) (hroom : bs.length + (2 + x.length) ≤ 1048576) : Calls Try.prog 84 #[.pointer (some ⟨w0.heap.size + 1, 0, none⟩), .slice (some ⟨B, 0, none⟩) 1 1] (W.alloc (.cells #[.string ⟨x.toArray⟩] 9)) (WroteW w0 (bs ++ text x) (.int .i64 0) W v) := by
  refine (text_one _ _ _ _ v bs x W hB M.H M.hO M.hz hx hroom).mono ?_
  rintro e w3 ⟨v3, rfl, H3, hO3, hs3⟩
  exact ⟨v3, rfl, M.step H3 hO3 hs3, hs3⟩
theorem bytesN_W (w0 W : World) (v : Value) (bs : List UInt8) (M : MineW w0 W v bs) (B n : Nat) (hB : W.heap.size = B) (ns : List Int) (hn : ns.length = n) (hm : n ≤ 1000) (vs : Array Value) (hv : vs = (ns.map fun x => Value.int .i64 x).toArray) (hall : ∀ x ∈ ns, 0 ≤ x ∧ x ≤ 255) (hroom : bs.length + n ≤ 1048576) : Calls Try.prog 37 #[.pointer (some ⟨w0.heap.size + 1, 0, none⟩), .slice (some ⟨B, 0, none⟩) n n] (W.alloc (.cells vs 3)) (WroteW w0 (bs ++ byts ns) (.int .i64 0) W v) := by
  subst hB hv
  have M1 := M.alloc (.cells (ns.map fun x => Value.int .i64 x).toArray 3)
  have K1 := M.kept (ns.map fun x => Value.int .i64 x).toArray 3
  refine (byte_ok _ _ _ v bs _ n n ns _ M1.H M1.hO M1.hz (by omega) hn (by omega) (fun w' hc => .inr ⟨W.heap.size, 0, rfl, fun j hj => ?_⟩) (fun j h => hall _ (List.getElem_mem h)) (by omega)).mono ?_
  · have hn : ¬ WSet w0.heap.size v W.heap.size := fun e => e.elim K1.off.1 K1.off.2
    exact hc.cell (by rw [Lib.cell_of_heap K1.there]; simp [hj]) hn
  rintro e w3 ⟨v3, rfl, H3, hO3, hs3⟩
  have hs := (WStep.alloc w0.heap.size W v (.cells (ns.map fun x => Value.int .i64 x).toArray 3)).trans hs3
  exact ⟨v3, rfl, M.step H3 hO3 hs, hs⟩
theorem intsN_W (w0 W : World) (v : Value) (bs : List UInt8) (M : MineW w0 W v bs) (B n : Nat) (hB : W.heap.size = B) (ns : List Int) (hn : ns.length = n) (vs : Array Value) (hv : vs = (ns.map fun x => Value.int .i64 x).toArray) (hroom : bs.length + 8 * n ≤ 1048576) : Calls Try.prog 38 #[.pointer (some ⟨w0.heap.size + 1, 0, none⟩), .slice (some ⟨B, 0, none⟩) n n] (W.alloc (.cells vs 3)) (WroteW w0 (bs ++ ints ns) (.int .i64 0) W v) := by
  subst hB hv
  have M1 := M.alloc (.cells (ns.map fun x => Value.int .i64 x).toArray 3)
  have K1 := M.kept (ns.map fun x => Value.int .i64 x).toArray 3
  refine (int_ok _ _ _ v bs _ n n ns _ M1.H M1.hO M1.hz (by omega) hn (fun w' hc => .inr ⟨W.heap.size, 0, rfl, fun j hj => ?_⟩) (by omega)).mono ?_
  · have hn : ¬ WSet w0.heap.size v W.heap.size := fun e => e.elim K1.off.1 K1.off.2
    exact hc.cell (by rw [Lib.cell_of_heap K1.there]; simp [hj]) hn
  rintro e w3 ⟨v3, rfl, H3, hO3, hs3⟩
  have hs := (WStep.alloc w0.heap.size W v (.cells (ns.map fun x => Value.int .i64 x).toArray 3)).trans hs3
  exact ⟨v3, rfl, M.step H3 hO3 hs, hs⟩
/-- A call on the Writer that finds no room: ErrSize, and nothing below w0 turned. -/
def FullW (w0 : World) (e : Ending) (w' : World) : Prop := e = .returned (.int .i64 6) ∧ Below w0.heap.size w0 w'
theorem MineW.full {w0 W w' : World} {v : Value} {bs : List UInt8} (M : MineW w0 W v bs) (hc : Chg W w' (fun k => k = w0.heap.size)) : Below w0.heap.size w0 w' := M.hb.trans (hc.below (by have := M.hz; omega) fun i (e : i = _) => by omega)
/-- How writing an entry ends. -/
def EntW (w0 : World) (bs : List UInt8) (x : Ent) (W : World) (v : Value) (e : Ending) (w' : World) : Prop := (bs.length + (entB x).length ≤ 1048576 ∧ WroteW w0 (bs ++ entB x) (.int .i64 0) W v e w') ∨ (1048576 < bs.length + (entB x).length ∧ FullW w0 e w')
theorem entB_len (x : Ent) : (entB x).length = 10 + x.d.length := by
  unfold entB; rw [List.length_append, be64_length, text_length]; omega
set_option maxRecDepth 100000 in
set_option maxHeartbeats 1000000 in
theorem entry_any (w0 : World) (v : Value) (bs : List UInt8) (W : World) (M : MineW w0 W v bs) (x : Ent) (hx : x.d.length ≤ 65535) (hbs : bs.length ≤ 1048576) : Calls Try.prog 66 #[.agg #[.pointer (some ⟨w0.heap.size + 1, 0, none⟩)], .agg #[.int .i64 x.v, .string ⟨x.d.toArray⟩]] W (EntW w0 bs x W v) := by
  have hxl := entB_len x
  obtain ⟨W1, hW1⟩ : ∃ W1, W1 = (W.alloc (.cells #[.pointer (some ⟨w0.heap.size + 1, 0, none⟩)] 87)).alloc (.cells #[.int .i64 x.v, .string ⟨x.d.toArray⟩] 109) := ⟨_, rfl⟩
  have hz1 : W1.heap.size = W.heap.size + 1 + 1 := by rw [hW1]; simp
  have M1 : MineW w0 W1 v bs := by rw [hW1]; exact (M.alloc _).alloc _
  have S1 : WStep w0.heap.size W v W1 v := by rw [hW1]; exact (WStep.alloc _ _ _ _).trans (WStep.alloc _ _ _ _)
  have KW : Kept w0 W1 v W.heap.size (.cells #[.pointer (some ⟨w0.heap.size + 1, 0, none⟩)] 87 (0, 0)) := by
    rw [hW1]; exact (M.kept #[.pointer (some ⟨w0.heap.size + 1, 0, none⟩)] 87).step (WStep.alloc _ _ _ _)
  have KE : Kept w0 W1 v (W.heap.size + 1) (.cells #[.int .i64 x.v, .string ⟨x.d.toArray⟩] 109 (0, 0)) := by
    have := (M.alloc (.cells #[.pointer (some ⟨w0.heap.size + 1, 0, none⟩)] 87)).kept #[.int .i64 x.v, .string ⟨x.d.toArray⟩] 109
    rw [hW1]; simpa using this
  have fin : ∀ e w', (bs.length + (entB x).length ≤ 1048576 ∧ WroteW w0 (bs ++ entB x) (.int .i64 0) W1 v e w') ∨ (1048576 < bs.length + (entB x).length ∧ FullW w0 e w') → EntW w0 bs x W v e w' := fun e w' h => by
    rcases h with ⟨h, v3, rfl, M3, s3⟩ | h
    · exact .inl ⟨h, v3, rfl, M3, S1.trans s3⟩
    · exact .inr h
  have hent : entB x = be64 x.v ++ text x.d := rfl
  obtain ⟨xv, xd⟩ := x
  simp only at *
  have c0 : ∀ (w3 : World) (v3 : Value), WStep w0.heap.size W1 v w3 v3 → w3.cell? ⟨W.heap.size, 0, none⟩ = some (.pointer (some ⟨w0.heap.size + 1, 0, none⟩)) ∧ w3.cell? ⟨W.heap.size + 1, 1, none⟩ = some (.string ⟨xd.toArray⟩) := fun w3 v3 s => ⟨by rw [Lib.cell_of_heap (KW.step s).there]; rfl, by rw [Lib.cell_of_heap (KE.step s).there]; rfl⟩
  clear S1 KW KE M
  by_cases h1 : bs.length + 8 ≤ 1048576
  · have hI := intW w0 W1 v bs M1 (W.heap.size + 1 + 1) xv hz1 h1
    by_cases h2 : bs.length + (entB ⟨xv, xd⟩).length ≤ 1048576
    · have hT : ∀ w3 v3, MineW w0 w3 v3 (bs ++ be64 xv) → Calls Try.prog 84 #[.pointer (some ⟨w0.heap.size + 1, 0, none⟩), .slice (some ⟨w3.heap.size, 0, none⟩) 1 1] (w3.alloc (.cells #[.string ⟨xd.toArray⟩] 9)) (WroteW w0 (bs ++ be64 xv ++ text xd) (.int .i64 0) w3 v3) := fun w3 v3 M3 => textW1 w0 w3 v3 _ M3 _ xd rfl hx (by rw [List.length_append, be64_length]; omega)
      have HX := hid hent
      have HF := hid fin
      have HC := hid c0
      clear hent fin c0 hxl M1
      subst hW1
      go_enter Try.func66, Try.ntmps66
      go_wp2_with (go_at_call 38; refine hI.mono ?_; clear hI; rintro e w3 ⟨v3, rfl, M3, s3⟩; obtain ⟨x0, x1⟩ := HC.out w3 v3 s3)
      go_wp2_with (go_at_call 84; refine (hT w3 v3 M3).mono ?_; clear hT; rintro e w4 ⟨v4, rfl, M4, s4⟩)
      go_ret
      refine HF.out _ _ (.inl ⟨h2, v4, rfl, ?_, s3.trans s4⟩)
      rw [HX.out, ← List.append_assoc]
      exact M4
    · have hT : ∀ w3 v3, MineW w0 w3 v3 (bs ++ be64 xv) → Calls Try.prog 84 #[.pointer (some ⟨w0.heap.size + 1, 0, none⟩), .slice (some ⟨w3.heap.size, 0, none⟩) 1 1] (w3.alloc (.cells #[.string ⟨xd.toArray⟩] 9)) (FullW w0) := fun w3 v3 M3 => by
        refine (text_none _ _ _ _ v3 _ xd w3 rfl M3.H M3.hO (by rw [List.length_append, be64_length]; omega) (by omega) (.inr (by rw [List.length_append, be64_length]; omega))).mono ?_
        rintro e w' ⟨rfl, hc⟩
        exact ⟨rfl, M3.full hc⟩
      have HF := hid fin
      have HC := hid c0
      clear hent fin c0 hxl M1
      subst hW1
      go_enter Try.func66, Try.ntmps66
      go_wp2_with (go_at_call 38; refine hI.mono ?_; clear hI; rintro e w3 ⟨v3, rfl, M3, s3⟩; obtain ⟨x0, x1⟩ := HC.out w3 v3 s3)
      go_wp2_with (go_at_call 84; refine (hT w3 v3 M3).mono ?_; clear hT; rintro e w4 ⟨rfl, hb4⟩)
      go_ret
      exact HF.out _ _ (.inr ⟨by omega, rfl, hb4⟩)
  · have hI : Calls Try.prog 38 #[.pointer (some ⟨w0.heap.size + 1, 0, none⟩), .slice (some ⟨W.heap.size + 1 + 1, 0, none⟩) 1 1] (W1.alloc (.cells #[.int .i64 xv] 3)) (FullW w0) := by
      refine (int_none _ _ _ _ v bs xv W1 hz1 M1.H M1.hO (by omega) (by omega)).mono ?_
      rintro e w' ⟨rfl, hc⟩
      exact ⟨rfl, M1.full hc⟩
    have HF := hid fin
    have h2 : 1048576 < bs.length + (entB ⟨xv, xd⟩).length := by omega
    clear hent fin c0 hxl M1
    subst hW1
    go_enter Try.func66, Try.ntmps66
    go_wp2_with (go_at_call 38; refine hI.mono ?_; clear hI; rintro e w3 ⟨rfl, hb3⟩)
    go_ret
    exact HF.out _ _ (.inr ⟨h2, rfl, hb3⟩)
end Go.Proofs.Ytmaecpmdikdclaa
