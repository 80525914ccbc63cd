/- What package code writes: instructions. -/
import Derived.Test.YtkbmmaacmofijaaCPl
import Derived.Test.YtkbmmaacmofijaaCR
namespace Go.Proofs.Ytkbmmaacmofijaa
open Go.RowKit
theorem MineW.alloc {w0 w : World} {v : Value} {bs : List UInt8} (M : MineW w0 w v bs) (o : Obj) : MineW w0 (w.alloc o) v bs := M.step (M.H.chg (Chg.alloc _ _ (fun _ => False)) id id) (Own.chg M.hO (Chg.alloc _ _ (fun _ => False)) (fun _ _ => id)) (WStep.alloc _ _ _ _)
theorem MineW.kept {w0 w : World} {v : Value} {bs : List UInt8} (M : MineW w0 w v bs) (cs : Array Value) (t : TypeId) : Kept w0 (w.alloc (.cells cs t)) v w.heap.size (.cells cs t (0, 0)) := ⟨heap_alloc_new w _, by have := M.hz; omega, fun e => by have := (M.hO.lt _ e).2; omega⟩
theorem bytes2W (w0 W : World) (v : Value) (bs : List UInt8) (M : MineW w0 W v bs) (B : Nat) (hB : W.heap.size = B) (x y : Int) (hx : 0 ≤ x ∧ x ≤ 255) (hy : 0 ≤ y ∧ y ≤ 255) (hroom : bs.length + 2 ≤ 1048576) : Calls Try.prog 32 #[.pointer (some ⟨w0.heap.size + 1, 0, none⟩), .slice (some ⟨B, 0, none⟩) 2 2] (W.alloc (.cells #[.int .i64 x, .int .i64 y] 3)) (WroteW w0 (bs ++ byts [x, y]) (.int .i64 0) W v) := by
  subst hB
  have M1 := M.alloc (.cells #[.int .i64 x, .int .i64 y] 3)
  have K1 := M.kept #[.int .i64 x, .int .i64 y] 3
  refine (byte_ok _ _ _ v bs _ 2 2 [x, y] _ M1.H M1.hO M1.hz (by omega) rfl (by omega) (fun w' hc => .inr ⟨W.heap.size, 0, rfl, fun j hj => ?_⟩) (fun j h => ?_) (by omega)).mono ?_
  · have hn : ¬ WSet w0.heap.size v W.heap.size := fun e => e.elim K1.off.1 K1.off.2
    match j, hj with
    | 0, _ => exact hc.cell (by rw [Lib.cell_of_heap K1.there]; rfl) hn
    | 1, _ => exact hc.cell (by rw [Lib.cell_of_heap K1.there]; rfl) hn
  · match j, h with
    | 0, _ => exact hx
    | 1, _ => exact hy
  rintro e w3 ⟨v3, rfl, H3, hO3, hs3⟩
  have hs := (WStep.alloc w0.heap.size W v (.cells #[.int .i64 x, .int .i64 y] 3)).trans hs3
  exact ⟨v3, rfl, M.step H3 hO3 hs, hs⟩
theorem intW (w0 W : World) (v : Value) (bs : List UInt8) (M : MineW w0 W v bs) (B : Nat) (x : Int) (hB : W.heap.size = B) (hroom : bs.length + 8 ≤ 1048576) : Calls Try.prog 65 #[.pointer (some ⟨w0.heap.size + 1, 0, none⟩), .slice (some ⟨B, 0, none⟩) 1 1] (W.alloc (.cells #[.int .i64 x] 3)) (WroteW w0 (bs ++ be64 x) (.int .i64 0) W v) := by
  refine (int_one _ _ _ _ v bs x W hB M.H M.hO M.hz hroom).mono ?_
  rintro e w3 ⟨v3, rfl, H3, hO3, hs3⟩
  exact ⟨v3, rfl, M.step H3 hO3 hs3, hs3⟩
theorem and255 (n : Nat) (h : n ≤ 256) : bits BinOp.and IntKind.i64 (n : Int) 255 = ((n % 256 : Nat) : Int) := by
  have : ∀ k : Fin 257, bits BinOp.and IntKind.i64 ((k.val : Nat) : Int) 255 = ((k.val % 256 : Nat) : Int) := by decide +kernel
  exact this ⟨n, by omega⟩
/-- The bytes of an instruction that may be; of a list of them. -/
def insB (x : Int × Int) : List UInt8 := [UInt8.ofNat x.1.toNat] ++ (if takesN x.1 = 0 then [] else if takesN x.1 = 1 then be64 x.2 else [UInt8.ofNat x.2.toNat])
def codeB (is : List (Int × Int)) : List UInt8 := byts [(is.length / 256 : Nat), (is.length % 256 : Nat)] ++ is.flatMap insB
theorem insB_len (x : Int × Int) : (insB x).length ≤ 9 := by
  unfold insB
  split
  · simp
  · split
    · simp [be64, be_length]
    · simp
theorem insB_flat (is : List (Int × Int)) : (is.flatMap insB).length ≤ 9 * is.length := by
  induction is with
  | nil => simp
  | cons x r ih =>
    have := insB_len x
    simp only [List.flatMap_cons, List.length_append, List.length_cons]
    omega
set_option maxRecDepth 100000 in
set_option maxHeartbeats 1000000 in
theorem wcode_any (w0 : World) (v : Value) (bs : List UInt8) (w : World) (M : MineW w0 w v bs) (a : Option Addr) (n c : Nat) (is : List (Int × Int)) (hi : is.length = n) (hN : IsAt w0.cell? a is) (hn : n ≤ 256) (hroom : bs.length + 3000 ≤ 1048576) (hall : ∀ x ∈ is, 0 ≤ x.1 ∧ x.1 ≤ 255 ∧ (takesN x.1 = 0 ∨ takesN x.1 = 1 ∨ 0 ≤ x.2 ∧ x.2 ≤ 255)) : Calls Try.prog 35 #[.agg #[.pointer (some ⟨w0.heap.size + 1, 0, none⟩)], .slice a n c] w (WroteW w0 (bs ++ codeB is) (.tuple #[]) w v) := by
  have KB := M.kept #[.pointer (some ⟨w0.heap.size + 1, 0, none⟩)] 60
  have S1 := WStep.alloc w0.heap.size w v (.cells #[.pointer (some ⟨w0.heap.size + 1, 0, none⟩)] 60)
  have M1 := M.alloc (.cells #[.pointer (some ⟨w0.heap.size + 1, 0, none⟩)] 60)
  have hsz : (w.alloc (.cells #[.pointer (some ⟨w0.heap.size + 1, 0, none⟩)] 60)).heap.size = w.heap.size + 1 := by simp
  have h2 := bytes2W w0 _ v bs M1 _ hsz ((n / 256 : Nat) : Int) ((n % 256 : Nat) : Int) (by omega) (by omega) (by omega)
  rw [← and255 n hn, show ((n / 256 : Nat) : Int) = (n : Int) / 256 from by omega] at h2
  go_enter Try.func35, Try.ntmps35
  go_wp2_with fail
  refine h2.mono ?_
  rintro e w3 ⟨v3, rfl, M3, hs3⟩
  clear h2
  rw [and255 n hn, show (n : Int) / 256 = ((n / 256 : Nat) : Int) from by omega] at M3
  have K3 := KB.step hs3
  have S3 := S1.trans hs3
  clear KB M1 hs3 S1 hsz M
  go_wp2_with fail
  have hhd : (byts [((n / 256 : Nat) : Int), ((n % 256 : Nat) : Int)]).length = 2 := rfl
  have HC : Hid (codeB is = byts [((n / 256 : Nat) : Int), ((n % 256 : Nat) : Int)] ++ is.flatMap insB) := hid (by rw [codeB, hi])
  generalize byts [((n / 256 : Nat) : Int), ((n % 256 : Nat) : Int)] = hd at M3 hhd HC
  generalize w.heap.size = B at K3
  have hTk := takes_all
  go_loopw [18] (fun i wr => ∃ (k : Nat) (vr : Value), k ≤ n ∧ i = .int .i64 k ∧ MineW w0 wr vr (bs ++ hd ++ (is.take k).flatMap insB) ∧ Kept w0 wr vr B (.cells #[.pointer (some ⟨w0.heap.size + 1, 0, none⟩)] 60 (0, 0)) ∧ WStep w0.heap.size w v wr vr) (fun i _ => n - (intOf i).toNat)
  case atStart => exact ⟨0, v3, Nat.zero_le _, rfl, by simpa using M3, K3, S3⟩
  case round =>
    obtain ⟨k, vr, hk, rfl, Mr, Kb, Sr⟩ := hrel
    by_cases hlt : k < n
    · rcases hN.keep (below_keep Mr.hb) with h0 | ⟨b0, off0, rfl, hc0⟩
      · subst h0; simp at hi; omega
      have kl : k < is.length := by omega
      obtain ⟨c0, c1⟩ := hc0 k kl
      obtain ⟨hx0, hx1, hx2⟩ := hall is[k] (by simp)
      have hlen := insB_flat (is.take k)
      rw [List.length_take] at hlen
      have HS : Hid ((is.take (k + 1)).flatMap insB = (is.take k).flatMap insB ++ insB is[k]) := hid (by rw [List.take_add_one, List.getElem?_eq_getElem kl]; show List.flatMap insB (is.take k ++ [is[k]]) = _; rw [List.flatMap_append, List.flatMap_cons, List.flatMap_nil, List.append_nil])
      generalize is[k] = x at c0 c1 hx0 hx1 hx2 HS
      obtain ⟨xo, xa⟩ := x
      simp only at c0 c1 hx0 hx1 hx2
      have HI : Hid (insB (xo, xa) = [UInt8.ofNat xo.toNat] ++ (if takesN xo = 0 then [] else if takesN xo = 1 then be64 xa else [UInt8.ofNat xa.toNat])) := hid rfl
      generalize (is.take k).flatMap insB = xs at Mr HS hlen
      obtain ⟨W4, hW4⟩ : ∃ W4, W4 = wr.alloc (.cells #[.int .i64 xo, .int .i64 xa] 51) := ⟨_, rfl⟩
      have M4 := Mr.alloc (.cells #[.int .i64 xo, .int .i64 xa] 51)
      have Kx := Mr.kept #[.int .i64 xo, .int .i64 xa] 51
      have st := WStep.alloc w0.heap.size wr vr (.cells #[.int .i64 xo, .int .i64 xa] 51)
      rw [← hW4] at M4 Kx st
      have Kb4 := Kb.step st
      have S4 := Sr.trans st
      have b4 : W4.cell? ⟨B, 0, none⟩ = some (.pointer (some ⟨w0.heap.size + 1, 0, none⟩)) := by rw [Lib.cell_of_heap Kb4.there]; rfl
      have x4 : W4.cell? ⟨wr.heap.size, 0, none⟩ = some (.int .i64 xo) := by rw [Lib.cell_of_heap Kx.there]; rfl
      have hBy := byteW w0 W4 vr _ M4 W4.heap.size xo.toNat rfl (by omega) (by simp only [List.length_append]; omega)
      rw [Int.toNat_of_nonneg hx0] at hBy
      clear hc0 hall st Kb
      have hTk := hTk xo
      by_cases h0 : takesN xo = 0
      · have HT : Hid (bs ++ hd ++ (is.take (k + 1)).flatMap insB = bs ++ hd ++ xs ++ [UInt8.ofNat xo.toNat]) := hid (by rw [HS.out, HI.out, if_pos h0]; simp only [List.append_assoc, List.append_nil])
        rw [h0] at hTk
        clear HS HI hx2 h0
        go_upto_region 5 with fail
        rw [← hW4]
        clear hW4
        go_wp2_with (first | (go_at_call 32; first | (refine hBy.mono ?_; rintro e w5 ⟨v5, rfl, M5, hs5⟩; clear hBy; have Kb5 := Kb4.step hs5; have Kx5 := Kx.step hs5; have S5 := S4.trans hs5; have b5 : w5.cell? ⟨B, 0, none⟩ = some (.pointer (some ⟨w0.heap.size + 1, 0, none⟩)) := (by rw [Lib.cell_of_heap Kb5.there]; rfl); have x5 : w5.cell? ⟨wr.heap.size, 0, none⟩ = some (.int .i64 xo) := (by rw [Lib.cell_of_heap Kx5.there]; rfl); have y5 : w5.cell? ⟨wr.heap.size, 1, none⟩ = some (.int .i64 xa) := (by rw [Lib.cell_of_heap Kx5.there]; rfl); clear Kx5)) | (go_at_call 56; refine (hTk _).mono ?_; rintro e w' ⟨rfl, hw'⟩; replace hw' := hw'.symm; subst hw'))
        exact ⟨⟨k + 1, v5, by omega, by go_num, by rw [HT.out]; exact M5, Kb5, S5⟩, by simp [intOf]; omega⟩
      · by_cases h1 : takesN xo = 1
        · have HT : Hid (bs ++ hd ++ (is.take (k + 1)).flatMap insB = bs ++ hd ++ xs ++ [UInt8.ofNat xo.toNat] ++ be64 xa) := hid (by rw [HS.out, HI.out, if_neg h0, if_pos h1]; simp only [List.append_assoc])
          rw [h1] at hTk
          clear HS HI hx2 h0 h1
          have hI2' : ∀ W v, MineW w0 W v (bs ++ hd ++ xs ++ [UInt8.ofNat xo.toNat]) → Calls Try.prog 65 #[.pointer (some ⟨w0.heap.size + 1, 0, none⟩), .slice (some ⟨W.heap.size, 0, none⟩) 1 1] (W.alloc (.cells #[.int .i64 xa] 3)) (WroteW w0 (bs ++ hd ++ xs ++ [UInt8.ofNat xo.toNat] ++ be64 xa) (.int .i64 0) W v) := fun W v M => intW w0 W v _ M _ xa rfl (by simp only [List.length_append, List.length_cons, List.length_nil]; omega)
          go_upto_region 5 with fail
          rw [← hW4]
          clear hW4
          go_wp2_with (first | (go_at_call 32; first | (refine hBy.mono ?_; rintro e w5 ⟨v5, rfl, M5, hs5⟩; clear hBy; have Kb5 := Kb4.step hs5; have Kx5 := Kx.step hs5; have S5 := S4.trans hs5; have b5 : w5.cell? ⟨B, 0, none⟩ = some (.pointer (some ⟨w0.heap.size + 1, 0, none⟩)) := (by rw [Lib.cell_of_heap Kb5.there]; rfl); have x5 : w5.cell? ⟨wr.heap.size, 0, none⟩ = some (.int .i64 xo) := (by rw [Lib.cell_of_heap Kx5.there]; rfl); have y5 : w5.cell? ⟨wr.heap.size, 1, none⟩ = some (.int .i64 xa) := (by rw [Lib.cell_of_heap Kx5.there]; rfl); have hI2 := hI2' w5 v5 M5; clear Kx5)) | (go_at_call 56; refine (hTk _).mono ?_; rintro e w' ⟨rfl, hw'⟩; replace hw' := hw'.symm; subst hw') | (go_at_call 65; refine hI2.mono ?_; rintro e w6 ⟨v6, rfl, M6, hs6⟩; clear hI2))
          exact ⟨⟨k + 1, v6, by omega, by go_num, by rw [HT.out]; exact M6, (Kb5.step hs6), (S5.trans hs6)⟩, by simp [intOf]; omega⟩
        · have HT : Hid (bs ++ hd ++ (is.take (k + 1)).flatMap insB = bs ++ hd ++ xs ++ [UInt8.ofNat xo.toNat] ++ [UInt8.ofNat xa.toNat]) := hid (by rw [HS.out, HI.out, if_neg h0, if_neg h1]; simp only [List.append_assoc])
          have hxa : 0 ≤ xa ∧ xa ≤ 255 := hx2.elim (fun h => absurd h h0) (fun h => h.elim (fun h => absurd h h1) id)
          generalize takesN xo = tk at hTk h0 h1
          have e0 : (tk == 0) = false := by simp [h0]
          have e1 : (tk == 1) = false := by simp [h1]
          clear HS HI hx2
          have hB2' : ∀ W v, MineW w0 W v (bs ++ hd ++ xs ++ [UInt8.ofNat xo.toNat]) → Calls Try.prog 32 #[.pointer (some ⟨w0.heap.size + 1, 0, none⟩), .slice (some ⟨W.heap.size, 0, none⟩) 1 1] (W.alloc (.cells #[.int .i64 xa] 3)) (WroteW w0 (bs ++ hd ++ xs ++ [UInt8.ofNat xo.toNat] ++ [UInt8.ofNat xa.toNat]) (.int .i64 0) W v) := fun W v M => by
            have := byteW w0 W v _ M W.heap.size xa.toNat rfl (by omega) (by simp only [List.length_append, List.length_cons, List.length_nil]; omega)
            rw [Int.toNat_of_nonneg hxa.1] at this
            exact this
          go_upto_region 5 with fail
          rw [← hW4]
          clear hW4
          go_wp2_with (first | (go_at_call 32; first | (refine hBy.mono ?_; rintro e w5 ⟨v5, rfl, M5, hs5⟩; clear hBy; have Kb5 := Kb4.step hs5; have Kx5 := Kx.step hs5; have S5 := S4.trans hs5; have b5 : w5.cell? ⟨B, 0, none⟩ = some (.pointer (some ⟨w0.heap.size + 1, 0, none⟩)) := (by rw [Lib.cell_of_heap Kb5.there]; rfl); have x5 : w5.cell? ⟨wr.heap.size, 0, none⟩ = some (.int .i64 xo) := (by rw [Lib.cell_of_heap Kx5.there]; rfl); have y5 : w5.cell? ⟨wr.heap.size, 1, none⟩ = some (.int .i64 xa) := (by rw [Lib.cell_of_heap Kx5.there]; rfl); have hB2 := hB2' w5 v5 M5; clear Kx5) | (refine hB2.mono ?_; rintro e w6 ⟨v6, rfl, M6, hs6⟩; clear hB2)) | (go_at_call 56; refine (hTk _).mono ?_; rintro e w' ⟨rfl, hw'⟩; replace hw' := hw'.symm; subst hw'))
          exact ⟨⟨k + 1, v6, by omega, by go_num, by rw [HT.out]; exact M6, (Kb5.step hs6), (S5.trans hs6)⟩, by simp [intOf]; omega⟩
    · have htk : is.take k = is := List.take_of_length_le (by omega)
      rw [htk] at Mr
      have HD : Hid (bs ++ codeB is = bs ++ hd ++ is.flatMap insB) := hid (by rw [HC.out, List.append_assoc])
      go_wp2_with fail
      go_end0
      exact ⟨vr, rfl, by rw [HD.out]; exact Mr, Sr⟩
end Go.Proofs.Ytkbmmaacmofijaa
