/- What package code writes: lists of types. -/
import Derived.Test.YtkbmmaacmofijaaCS
import Derived.Test.YtkbmmaacmofijaaWJ
namespace Go.Proofs.Ytkbmmaacmofijaa
open Go.RowKit
/-- The Writer that was made at w: at the two blocks behind w. -/
structure MineW (w wr : World) (vr : Value) (bs : List UInt8) : Prop where
  H : WrE wr (w.heap.size + 1) w.heap.size vr 0
  hO : OwnB wr (w.heap.size + 2) vr bs
  hb : Below w.heap.size w wr
  hz : w.heap.size + 2 ≤ wr.heap.size
theorem MineW.step {w wr w2 : World} {vr v2 : Value} {bs bs2 : List UInt8} (M : MineW w wr vr bs) (H : WrE w2 (w.heap.size + 1) w.heap.size v2 0) (hO : OwnB w2 (w.heap.size + 2) v2 bs2) (hs : WStep w.heap.size wr vr w2 v2) : MineW w w2 v2 bs2 :=
  ⟨H, hO, M.hb.trans (hs.below (by have := M.hz; omega) (Nat.le_refl _) (fun k e => by have := (M.hO.lt k e).1; omega)), Nat.le_trans M.hz hs.1.size⟩
/-- A block that the Writer does not touch. -/
structure Kept (w0 wr : World) (vr : Value) (k : Nat) (o : Obj) : Prop where
  there : wr.heap[k]? = some o
  off : k ≠ w0.heap.size ∧ vr.ownBlock ≠ some k
theorem Kept.step {w0 wr w2 : World} {vr v2 : Value} {k : Nat} {o : Obj} (K : Kept w0 wr vr k o) (hs : WStep w0.heap.size wr vr w2 v2) : Kept w0 w2 v2 k o := by
  have hlt := (Array.getElem?_eq_some_iff.1 K.there).1
  refine ⟨?_, K.off.1, ?_⟩
  · rw [hs.1.block k hlt (fun e => e.elim K.off.1 K.off.2)]; exact K.there
  · rcases hs.2 with e | ⟨g, e, hg⟩
    · rw [e]; exact K.off.2
    · rw [e]; intro h; cases h; omega
theorem MineW.chg {w0 w3 w' : World} {v3 : Value} {bs : List UInt8} (M : MineW w0 w3 v3 bs) (hc : Chg w3 w' (WSet w0.heap.size v3)) : Below w0.heap.size w0 w' :=
  M.hb.trans (hc.below (by have := M.hz; omega) (fun i h => by
    rcases h with h | h
    · omega
    · have := (M.hO.lt i h).1; omega))
/-- What is written: the bytes, and what a call that answers r leaves. -/
def WroteW (w0 : World) (bs : List UInt8) (r : Value) (w : World) (v : Value) (e : Ending) (w' : World) : Prop := ∃ v', e = .returned r ∧ MineW w0 w' v' bs ∧ WStep w0.heap.size w v w' v'
theorem byteW (w0 W : World) (v : Value) (bs : List UInt8) (M : MineW w0 W v bs) (B n : Nat) (hB : W.heap.size = B) (hn : n ≤ 255) (hroom : bs.length + 1 ≤ 1048576) : Calls Try.prog 32 #[.pointer (some ⟨w0.heap.size + 1, 0, none⟩), .slice (some ⟨B, 0, none⟩) 1 1] (W.alloc (.cells #[.int .i64 (n : Int)] 3)) (WroteW w0 (bs ++ [UInt8.ofNat n]) (.int .i64 0) W v) := by
  have e : (n : Int) = ((UInt8.ofNat n).toNat : Nat) := by rw [UInt8.toNat_ofNat']; omega
  rw [e]
  refine (byte_one _ _ _ _ v bs _ W hB M.H M.hO M.hz hroom).mono ?_
  rintro e w3 ⟨v3, rfl, H3, hO3, hs3⟩
  exact ⟨v3, rfl, M.step H3 hO3 hs3, hs3⟩
theorem bytesW (w0 W : World) (v : Value) (bs : List UInt8) (M : MineW w0 W v bs) (a : Option Addr) (c n : Nat) (ns : List Int) (hn : ns.length = n) (hN : NsAt w0.cell? a ns) (hall : ∀ x ∈ ns, 0 ≤ x ∧ x ≤ 255) (hroom : bs.length + n ≤ 1048576) : Calls Try.prog 32 #[.pointer (some ⟨w0.heap.size + 1, 0, none⟩), .slice a n c] W (WroteW w0 (bs ++ byts ns) (.int .i64 0) W v) := by
  refine (byte_ok _ _ _ v bs a n c ns W M.H M.hO M.hz (by omega) hn (by omega) (fun w' hc => hN.keep (below_keep (M.chg hc))) (fun j h => hall _ (by simp)) (by omega)).mono ?_
  rintro e w3 ⟨v3, rfl, H3, hO3, hs3⟩
  exact ⟨v3, rfl, M.step H3 hO3 hs3, hs3⟩
def lens (X : List (List Int)) : List UInt8 := X.flatMap fun l => [UInt8.ofNat l.length] ++ byts l
theorem lens_snoc (X : List (List Int)) (k : Nat) (h : k < X.length) : lens (X.take (k + 1)) = lens (X.take k) ++ ([UInt8.ofNat X[k].length] ++ byts X[k]) := by
  unfold lens
  rw [List.take_add_one, List.getElem?_eq_getElem h]
  show List.flatMap _ (X.take k ++ [X[k]]) = _
  rw [List.flatMap_append, List.flatMap_cons, List.flatMap_nil, List.append_nil]
theorem lens_take_le (X : List (List Int)) (k : Nat) : (lens (X.take k)).length ≤ (lens X).length := by
  have : lens X = lens (X.take k) ++ lens (X.drop k) := by
    unfold lens
    rw [← List.flatMap_append, List.take_append_drop]
  rw [this, List.length_append]
  omega
set_option maxRecDepth 100000 in
set_option maxHeartbeats 1000000 in
theorem wlists_any (w0 : World) (v : Value) (bs : List UInt8) (w : World) (M : MineW w0 w v bs) (g n : Nat) (X : List (List Int)) (Vs : Array Value) (hX : X.length = n) (hn : n ≤ 1000) (K : Kept w0 w v g (.cells Vs 28 (0, 0))) (hV : ∀ k (h : k < X.length), ∃ a c, Vs[k]? = some (.slice a X[k].length c) ∧ NsAt w0.cell? a X[k]) (hall : ∀ l ∈ X, l.length ≤ 255 ∧ ∀ x ∈ l, 0 ≤ x ∧ x ≤ 255) (hroom : bs.length + (lens X).length ≤ 1048576) : Calls Try.prog 34 #[.agg #[.pointer (some ⟨w0.heap.size + 1, 0, none⟩)], .slice (some ⟨g, 0, none⟩) n n] w (WroteW w0 (bs ++ lens X) (.tuple #[]) w v) := by
  have KB : Kept w0 (w.alloc (.cells #[.pointer (some ⟨w0.heap.size + 1, 0, none⟩)] 60)) v w.heap.size (.cells #[.pointer (some ⟨w0.heap.size + 1, 0, none⟩)] 60 (0, 0)) := ⟨heap_alloc_new w _, by have := M.hz; omega, fun e => by have := (M.hO.lt _ e).2; omega⟩
  have S1 := WStep.alloc w0.heap.size w v (.cells #[.pointer (some ⟨w0.heap.size + 1, 0, none⟩)] 60)
  have M1 : MineW w0 (w.alloc (.cells #[.pointer (some ⟨w0.heap.size + 1, 0, none⟩)] 60)) v bs := M.step (M.H.chg (Chg.alloc _ _ (fun _ => False)) id id) (Own.chg M.hO (Chg.alloc _ _ (fun _ => False)) (fun _ _ => id)) S1
  have K1 := K.step S1
  generalize hB : w.heap.size = B at KB
  obtain ⟨W1, hW1⟩ : ∃ W1, W1 = w.alloc (.cells #[.pointer (some ⟨w0.heap.size + 1, 0, none⟩)] 60) := ⟨_, rfl⟩
  rw [← hW1] at KB S1 M1 K1
  go_enter Try.func34, Try.ntmps34
  go_wp2_with fail
  rw [← hW1]
  clear hW1 hB K M
  go_loopw [8] (fun i wr => ∃ (k : Nat) (vr : Value), k ≤ n ∧ i = .int .i64 k ∧ MineW w0 wr vr (bs ++ lens (X.take k)) ∧ Kept w0 wr vr g (.cells Vs 28 (0, 0)) ∧ Kept w0 wr vr B (.cells #[.pointer (some ⟨w0.heap.size + 1, 0, none⟩)] 60 (0, 0)) ∧ WStep w0.heap.size w v wr vr) (fun i _ => n - (intOf i).toNat)
  case atStart => exact ⟨0, v, Nat.zero_le _, rfl, by simpa [lens] using M1, K1, KB, S1⟩
  case round =>
    obtain ⟨k, vr, hk, rfl, Mr, Kr, Kb, Sr⟩ := hrel
    have b0 : wr.cell? ⟨B, 0, none⟩ = some (.pointer (some ⟨w0.heap.size + 1, 0, none⟩)) := by rw [Lib.cell_of_heap Kb.there]; rfl
    by_cases hlt : k < n
    · have kl : k < X.length := by omega
      obtain ⟨a, c, hv, hN⟩ := hV k kl
      have c0 : wr.cell? ⟨g, k, none⟩ = some (.slice a X[k].length c) := by rw [Lib.cell_of_heap Kr.there]; exact hv
      obtain ⟨hl, hx⟩ := hall X[k] (by simp)
      have HS := hid (lens_snoc X k kl)
      have hle := lens_take_le X (k + 1)
      rw [HS.out] at hle
      simp only [List.length_append, byts_length, List.length_cons, List.length_nil] at hle
      generalize X[k] = l at hv hN c0 hl hx HS hle
      obtain ⟨m, hm⟩ : ∃ m, m = l.length := ⟨_, rfl⟩
      have hBy := byteW w0 wr vr _ Mr wr.heap.size l.length rfl hl (by simp only [List.length_append]; omega)
      have hB2 : ∀ W v, MineW w0 W v (bs ++ lens (X.take k) ++ [UInt8.ofNat l.length]) → Calls Try.prog 32 #[.pointer (some ⟨w0.heap.size + 1, 0, none⟩), .slice a l.length c] W (WroteW w0 (bs ++ lens (X.take k) ++ [UInt8.ofNat l.length] ++ byts l) (.int .i64 0) W v) := fun W v M => bytesW w0 W v _ M a c l.length l rfl hN hx (by simp only [List.length_append, List.length_cons, List.length_nil]; omega)
      have HT : Hid (bs ++ lens (X.take k) ++ [UInt8.ofNat l.length] ++ byts l = bs ++ lens (X.take (k + 1))) := hid (by rw [HS.out]; simp only [List.append_assoc])
      clear HS hV hall hv hN hx
      rw [← hm] at c0 hBy hB2 HT hl hle
      clear hm
      go_wp2_with (go_at_call 32; first | (refine hBy.mono ?_; rintro e w3 ⟨v3, rfl, M3, hs3⟩; clear hBy; have K3 := Kr.step hs3; have Kb3 := Kb.step hs3; have S3 := Sr.trans hs3; have b3 : w3.cell? ⟨B, 0, none⟩ = some (.pointer (some ⟨w0.heap.size + 1, 0, none⟩)) := (by rw [Lib.cell_of_heap Kb3.there]; rfl); have hC := hB2 w3 v3 M3; clear hB2) | (refine hC.mono ?_; rintro e w4 ⟨v4, rfl, M4, hs4⟩; clear hC))
      rw [HT.out] at M4
      exact ⟨⟨k + 1, v4, by omega, by go_num, M4, K3.step hs4, Kb3.step hs4, S3.trans hs4⟩, by simp [intOf]; omega⟩
    · have htk : X.take k = X := List.take_of_length_le (by omega)
      rw [htk] at Mr
      go_wp2_with fail
      go_end0
      exact ⟨vr, rfl, Mr, Sr⟩
end Go.Proofs.Ytkbmmaacmofijaa
