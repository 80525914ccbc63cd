/- The law BoundMore. -/
import Derived.Test.YtodagpmcmjleaaaLTu9
import Derived.Test.YtodagpmcmjleaaaYM
namespace Go.Proofs.Ytodagpmcmjleaaa
open Go.RowKit
theorem way9 (k : Int) (n : Nat) (h1 : 1 ≤ n) (h2 : n ≤ 1048576) : ∃ j : Nat, (wrap64 (k.tmod (n : Int) + (n : Int))).tmod (n : Int) = j ∧ j < n := by
  have ha : (k.tmod (n : Int)).natAbs = k.natAbs % n := by rw [Int.natAbs_tmod]; simp
  have hb : k.natAbs % n < n := Nat.mod_lt _ (by omega)
  generalize k.tmod (n : Int) = x at *
  have e : wrap64 (x + (n : Int)) = x + (n : Int) := by unfold wrap64; omega
  rw [e, Int.tmod_eq_emod_of_nonneg (by omega)]
  refine ⟨((x + (n : Int)) % (n : Int)).toNat, ?_, ?_⟩
  · have := Int.emod_nonneg (x + (n : Int)) (show (n : Int) ≠ 0 by omega); omega
  · have := Int.emod_lt_of_pos (x + (n : Int)) (show (0 : Int) < n by omega); omega
theorem IsAt.takeN {C : Addr → Option Value} {a : Option Addr} {cs : List (Int × Int)} (h : IsAt C a cs) (j : Nat) : IsAt C a (cs.take j) := by
  rcases h with h | ⟨b, o, e, h⟩
  · exact .inl (by rw [h]; simp)
  · refine .inr ⟨b, o, e, fun i hi => ?_⟩
    rw [List.length_take] at hi
    rw [List.getElem_take]
    exact h i (by omega)
theorem IsAt.dropN {C : Addr → Option Value} {b o : Nat} {cs : List (Int × Int)} (h : IsAt C (some ⟨b, o, none⟩) cs) (j : Nat) : IsAt C (some ⟨b, o + j * 2, none⟩) (cs.drop j) := by
  rcases h with h | ⟨b', o', e, h⟩
  · exact .inl (by rw [h]; simp)
  · cases e
    refine .inr ⟨b, o + j * 2, rfl, fun i hi => ?_⟩
    rw [List.length_drop] at hi
    rw [List.getElem_drop]
    have := h (j + i) (by omega)
    rw [show o + (j + i) * 2 = o + j * 2 + i * 2 by omega] at this
    exact this
/-- The instruction in its box. -/
theorem To9.box {w0 : World} {ls : List Int} {la : Option Addr} {W : World} {g : Nat} {o a : Int} (h : To9 w0 ls la W) (hx : w0.cell? ⟨g, 0, none⟩ = some (.int .i64 o) ∧ w0.cell? ⟨g, 1, none⟩ = some (.int .i64 a)) : W.cell? ⟨g, 0, none⟩ = some (.int .i64 o) ∧ W.cell? ⟨g, 1, none⟩ = some (.int .i64 a) := ⟨below_keep h.1 _ _ hx.1, below_keep h.1 _ _ hx.2⟩
theorem lies_sliced {W : World} {ca : Option Addr} {cs : List (Int × Int)} {cc l h : Nat} (hi : IsAt W.cell? ca cs) (h1 : l ≤ h) (h2 : h ≤ cs.length) (h3 : cs.length ≤ cc) : Lies W (sliced ca l h cc 2) (h - l) (cellsI ((cs.take h).drop l)) := by
  have hlen : ((cs.take h).drop l).length = h - l := by simp; omega
  have key : ∀ a', IsAt W.cell? a' ((cs.take h).drop l) → Lies W (.slice a' (h - l) (cc - l)) (h - l) (cellsI ((cs.take h).drop l)) := fun a' ha => by
    have := ha.lies (cc - l)
    rw [hlen] at this
    exact this
  unfold sliced
  refine key _ ?_
  rcases hi with hn | ⟨b, o, rfl, hc⟩
  · exact .inl (by rw [hn]; simp)
  · split
    · rename_i e
      exact .inl (List.length_eq_zero_iff.1 (by omega))
    · have hA := IsAt.dropN ((IsAt.takeN (.inr ⟨b, o, rfl, hc⟩ : IsAt W.cell? (some ⟨b, o, none⟩) cs)) h) l
      rw [Option.map_some, Addr.add_lit]
      exact hA
theorem slice_h_run (W : World) (ca : Option Addr) (n cc j : Nat) (h : j ≤ cc) : (Go.Instr.sliceAt 22 (.slice ca n cc) none (some (.int .i64 (j : Int))) none).run Try.prog W = .ok (sliced ca 0 j cc 2) W := by
  have hu := Try.underlying22
  have he : Try.prog.elem 22 = 35 := by simp [Program.elem, hu]
  have ht : Try.prog.underlying 22 = some (.slice (Try.prog.elem 22)) := by rw [he]; exact hu
  rw [run_sliceAt_slice _ _ _ _ _ _ ht, run_slice_h _ _ _ _ _ ht _ _ (by omega) (by omega), he]
  simp [go_sem]
theorem slice_l_run (W : World) (ca : Option Addr) (n cc j : Nat) (h : j ≤ n) : (Go.Instr.sliceAt 22 (.slice ca n cc) (some (.int .i64 (j : Int))) none none).run Try.prog W = .ok (sliced ca j n cc 2) W := by
  have hu := Try.underlying22
  have he : Try.prog.elem 22 = 35 := by simp [Program.elem, hu]
  have ht : Try.prog.underlying 22 = some (.slice (Try.prog.elem 22)) := by rw [he]; exact hu
  rw [run_sliceAt_slice _ _ _ _ _ _ ht, run_slice_l _ _ _ _ _ ht _ _ (by omega) (by omega), he]
  simp [go_sem]
theorem row_cells9 {W : World} {g : Nat} {o a : Int} (hg : W.heap[g]? = some (.cells #[.int .i64 o, .int .i64 a] 35 (0, 0))) : ∀ j u, (cellsI [(o, a)])[j]? = some u → W.cell? ((⟨g, 0, none⟩ : Addr).add j) = some u := by
  intro j u hu
  rw [Addr.add_lit, Lib.cell_of_heap hg]
  simpa [cellsI] using hu
theorem mo_row {w0 : World} {ls : List Int} {la : Option Addr} {w3 W : World} {n j : Nat} {cs : List (Int × Int)} {o a : Int} {v : Value} (hS : To9 w0 ls la w3) (hb : Below w3.heap.size w3 W) (h : W.ownsRow w3.heap.size 35 2 v (j + 1 + (n - j)) (cellsI (cs.take j) ++ cellsI [(o, a)] ++ cellsI (cs.drop j))) :
    ∃ va vc, v = .slice va (j + 1 + (n - j)) vc ∧ Hid (To9 w0 ls la W ∧ IsAt W.cell? va (moreC cs j (o, a))) := by
  rw [show cellsI (cs.take j) ++ cellsI [(o, a)] ++ cellsI (cs.drop j) = cellsI (moreC cs j (o, a)) by simp [cellsI, moreC]] at h
  obtain ⟨_, va, vc, e2, _, hI⟩ := is_of_row h (C := W.cell?) (fun x v _ hv => hv)
  exact ⟨va, vc, e2, hid9 ⟨hS.keep hb, hI⟩⟩
/-- What each operation of the region leaves. -/
def MP (B n j : Nat) (cs : List (Int × Int)) (vc vj v3 v10 : Value) (o a : Int) (listed : Array Bool) (i : Nat) (u : Value) (W : World) : Prop :=
  match i with
  | 0 => listed.getD 4 false = true ∨ ∃ g, u = .slice (some ⟨g, 0, none⟩) 0 0 ∧ B ≤ g ∧ W.heap[g]? = some (.cells #[] 35 (0, 0))
  | 1 => u = vc
  | 2 => u = vj
  | 3 => u = v3
  | 4 => listed.getD 7 false = true ∨ W.ownsRow B 35 2 u j (cellsI (cs.take j))
  | 5 => u = .agg #[.int .i64 o, .int .i64 a]
  | 6 => listed.getD 7 false = true ∨ ∃ g, u = .slice (some ⟨g, 0, none⟩) 1 1 ∧ W.heap[g]? = some (.cells #[.int .i64 o, .int .i64 a] 35 (0, 0))
  | 7 => listed.getD 11 false = true ∨ W.ownsRow B 35 2 u (j + 1) (cellsI (cs.take j) ++ cellsI [(o, a)])
  | 8 => u = vc
  | 9 => u = vj
  | 10 => u = v10
  | 11 => W.ownsRow B 35 2 u (j + 1 + (n - j)) (cellsI (cs.take j) ++ cellsI [(o, a)] ++ cellsI (cs.drop j))
  | 12 => W.ownsRow B 35 2 u (j + 1 + (n - j)) (cellsI (cs.take j) ++ cellsI [(o, a)] ++ cellsI (cs.drop j))
  | _ => True
theorem MP.below {B n j : Nat} {cs : List (Int × Int)} {vc vj v3 v10 : Value} {o a : Int} {listed : Array Bool} {W W' : World} (hb : Below W.heap.size W W') {i : Nat} : ∀ k u, listed.getD k false = true → MP B n j cs vc vj v3 v10 o a listed k u W → MP B n j cs vc vj v3 v10 o a (listed.setIfInBounds i true) k u W' := by
  intro k u _ h
  unfold MP at h ⊢
  split at h
  all_goals first
    | exact h
    | exact row_below2 h hb
    | exact h.imp getD_more fun h => row_below2 h hb
    | (refine h.imp getD_more fun h => ?_
       obtain ⟨g, rfl, h1, hg⟩ := h
       exact ⟨g, rfl, h1, by rw [hb.block g (Array.getElem?_eq_some_iff.1 hg).1]; exact hg⟩)
    | (refine h.imp getD_more fun h => ?_
       obtain ⟨g, rfl, hg⟩ := h
       exact ⟨g, rfl, by rw [hb.block g (Array.getElem?_eq_some_iff.1 hg).1]; exact hg⟩)
theorem fin9 {w : World} {o : Obj} {ls : List Int} {la : Option Addr} {W : World} (h : To9 (w.alloc o) ls la W) : Below w.heap.size w W := by
  have b := (Below.refl _ w).alloc (Nat.le_refl _) o
  exact b.trans (h.1.mono (by simp))
set_option maxRecDepth 100000 in
set_option maxHeartbeats 2000000 in
theorem more_any (cs : List (Int × Int)) (ns : List Int) (ca na : Option Addr) (cc nc n k : Nat) (o a z : Int) (hn : cs.length = n) (hk : ns.length = k) (bn : n ≤ 8796093022208) (bk : k ≤ 17592186044416) (hcc : n ≤ cc) (w : World) (hc : IsAt w.cell? ca cs) (hz : NsAt w.cell? na ns) :
    Calls Try.prog 4 #[.slice ca n cc, .slice na k nc, .agg #[.int .i64 o, .int .i64 a], .int .i64 z] w fun e w' => e = .returned (.bool true) ∧ Below w.heap.size w w' := by
  obtain ⟨w0, hw0⟩ : ∃ w0, w0 = w.alloc (.cells #[.int .i64 o, .int .i64 a] 35) := ⟨_, rfl⟩
  have b0 : Below w.heap.size w w0 := by rw [hw0]; exact (Below.refl _ w).alloc (Nat.le_refl _) _
  have hx0 : w0.cell? ⟨w.heap.size, 0, none⟩ = some (.int .i64 o) ∧ w0.cell? ⟨w.heap.size, 1, none⟩ = some (.int .i64 a) := by
    have := heap_alloc_new w (.cells #[.int .i64 o, .int .i64 a] 35)
    rw [hw0]
    exact ⟨Lib.cell_of_heap this 0, Lib.cell_of_heap this 1⟩
  have hfin : ∀ ls la W, To9 w0 ls la W → Below w.heap.size w W := fun ls la W h => by rw [hw0] at h; exact fin9 h
  have hc0 := hc.keep (below_keep b0)
  have hz0 := hz.keep (below_keep b0)
  obtain ⟨ls, hls⟩ : ∃ ls, ls = calmS ns := ⟨_, rfl⟩
  have HL : Hid (Calls Try.prog 14 #[.slice na k nc] (w.alloc (.cells #[.int .i64 o, .int .i64 a] 35)) fun e W => ∃ la ln lc, e = .returned (.slice la ln lc) ∧ Hid (ln = ls.length) ∧ Hid (To9 w0 ls la W)) := hid9 (by rw [← hw0, hls]; exact calm_to (c := nc) hk (by omega) w0 hz0)
  have hll : ls.length ≤ 20 := by rw [hls]; simp [calmS]; omega
  obtain ⟨A, hA⟩ : ∃ A, A = (partS cs ls).1 := ⟨_, rfl⟩
  obtain ⟨E, hE⟩ : ∃ E, E = (partS cs ls).2 := ⟨_, rfl⟩
  have hAl : A ≤ 1048577 := hA ▸ partS_le cs ls
  have HOc : Hid (∀ la W, To9 w0 ls la W → Calls Try.prog 9 #[.slice ca n cc] W fun e W1 => ∃ a1 c1, e = .returned (.slice a1 n c1) ∧ Hid (To9 w0 ls la W1 ∧ IsAt W1.cell? a1 cs)) := hid9 fun la W h => (own_to h cc hn bn hc0).mono fun e W1 ⟨a1, c1, h1, h2⟩ => ⟨a1, c1, h1, hid9 ⟨h2.out.1, h2.out.2.1⟩⟩
  have HPc : Hid (∀ la lc ln a1 c1 W, ln = ls.length → To9 w0 ls la W → IsAt W.cell? a1 cs → Calls Try.prog 10 #[.slice a1 n c1, .slice la ln lc] W fun e W1 => e = .returned (.tuple #[.int .i64 (A : Nat), .int .i64 E]) ∧ (W1.cell? ⟨w.heap.size, 0, none⟩ = some (.int .i64 o) ∧ W1.cell? ⟨w.heap.size, 1, none⟩ = some (.int .i64 a)) ∧ Hid (To9 w0 ls la W1)) := hid9 fun la lc ln a1 c1 W hl h hi => (part_to h c1 lc hn (by omega) hl (by omega) hi hA hE).mono fun e W1 ⟨h1, h2⟩ => ⟨h1, h2.out.box hx0, h2⟩
  have HKn : Hid (∀ la W, To9 w0 ls la W → Calls Try.prog 8 #[] W fun e W1 => e = .returned (.bool true) ∧ Hid (Below w.heap.size w W1)) := hid9 fun la W h => (knows_to h).mono fun e W1 ⟨h1, h2⟩ => ⟨h1, hid9 (hfin _ _ _ h2.out)⟩
  by_cases hbig : ¬ E = 0 ∨ 200 < n ∨ (48 ≤ o ∧ o ≤ 52)
  · clear hc hz hA hE hn hk hls hx0 b0 hc0 hz0 hfin hw0
    go_enter Try.func4, Try.ntmps4
    go_wp2_with (first
      | (go_at_call 14; refine HL.out.mono ?_; clear HL; rintro e w1 ⟨la, ln, lc, rfl, hln, HS⟩)
      | (go_at_call 9; refine (HOc.out la _ HS.out).mono ?_; clear HOc; rintro e w2 ⟨a1, c1, rfl, HQ⟩)
      | (go_at_call 10; refine (HPc.out _ _ _ _ _ _ hln.out HQ.out.1 HQ.out.2).mono ?_; clear HQ HPc HS; rintro e w3 ⟨rfl, ⟨x0, x1⟩, HS⟩)
      | (go_at_call 12; refine (num9_any _ _).mono ?_; rintro e w9 ⟨rfl, w9e⟩; rw [w9e]; clear w9e)
      | (go_at_call 8; refine (HKn.out _ _ HS.out).mono ?_; clear HKn HS; rintro e w8 ⟨rfl, HS⟩)
      | fail)
    all_goals first | (exfalso; omega) | (go_ret; exact ⟨rfl, HS.out⟩)
  have e0 : E = 0 := by omega
  have hn2 : n ≤ 200 := by omega
  by_cases ho : o = 53
  · subst ho
    clear hc hz hA hE hn hk hls hx0 b0 hc0 hz0 hfin hw0
    go_enter Try.func4, Try.ntmps4
    go_wp2_with (first
      | (go_at_call 14; refine HL.out.mono ?_; clear HL; rintro e w1 ⟨la, ln, lc, rfl, hln, HS⟩)
      | (go_at_call 9; refine (HOc.out la _ HS.out).mono ?_; clear HOc; rintro e w2 ⟨a1, c1, rfl, HQ⟩)
      | (go_at_call 10; refine (HPc.out _ _ _ _ _ _ hln.out HQ.out.1 HQ.out.2).mono ?_; clear HQ HPc HS; rintro e w3 ⟨rfl, ⟨x0, x1⟩, HS⟩)
      | (go_at_call 12; refine (num9_any _ _).mono ?_; rintro e w9 ⟨rfl, w9e⟩; rw [w9e]; clear w9e)
      | (go_at_call 8; refine (HKn.out _ _ HS.out).mono ?_; clear HKn HS; rintro e w8 ⟨rfl, HS⟩)
      | fail)
    all_goals first | (exfalso; omega) | (go_ret; exact ⟨rfl, HS.out⟩)
  have hx : (o < 48 ∨ 52 < o) ∧ o ≠ 53 := by omega
  have ho2 : (o == 53) = false := by simpa using ho
  obtain ⟨j, ej, hj⟩ := way9 z (n + 1) (by omega) (by omega)
  have ej2 : (wrap64 (wrap64 (z.tmod (↑n + 1) + ↑n) + 1)).tmod (↑n + 1) = (j : Int) := by
    rw [← ej]
    have h1 : (z.tmod ((n : Int) + 1)).natAbs = z.natAbs % (n + 1) := by rw [Int.natAbs_tmod]; rfl
    have h2 := Nat.mod_lt z.natAbs (show 0 < n + 1 by omega)
    push_cast
    generalize z.tmod ((n : Int) + 1) = x at *
    congr 1
    unfold wrap64
    omega
  obtain ⟨g1, g2, g3⟩ := more_part (cs := cs) (ls := ls) j (x := (o, a)) hx (hE ▸ e0)
  obtain ⟨M, hM⟩ : ∃ M, M = (partS (moreC cs j (o, a)) ls).1 := ⟨_, rfl⟩
  have hMl : M ≤ 1048577 := hM ▸ partS_le _ ls
  rw [← hM, ← hA] at g2 g3
  have HPm : Hid (∀ la lc ln a1 c1 W, ln = ls.length → To9 w0 ls la W → IsAt W.cell? a1 (moreC cs j (o, a)) → Calls Try.prog 10 #[.slice a1 (j + 1 + (n - j)) c1, .slice la ln lc] W fun e W1 => e = .returned (.tuple #[.int .i64 (M : Nat), .int .i64 0]) ∧ (W1.cell? ⟨w.heap.size, 0, none⟩ = some (.int .i64 o) ∧ W1.cell? ⟨w.heap.size, 1, none⟩ = some (.int .i64 a)) ∧ Hid (To9 w0 ls la W1)) := hid9 fun la lc ln a1 c1 W hl h hi => (part_to h c1 lc (by rw [more_len cs j _ (by omega), hn]; omega) (by omega) hl (by omega) hi hM g1.symm).mono fun e W1 ⟨h1, h2⟩ => ⟨h1, h2.out.box hx0, h2⟩
  have G3 := hid9 g3
  have HL3 : Hid (∀ W, Below w.heap.size w W → Lies W (sliced ca 0 j cc 2) j (cellsI (cs.take j)) ∧ Lies W (sliced ca j n cc 2) (n - j) (cellsI (cs.drop j))) := hid9 fun W hW => by
    have h1 := lies_sliced (hc.keep (below_keep hW)) (Nat.zero_le j) (by omega) (by omega) (cc := cc)
    have h2 := lies_sliced (hc.keep (below_keep hW)) (l := j) (h := n) (by omega) (by omega) (by omega) (cc := cc)
    rw [Nat.sub_zero, List.drop_zero] at h1
    rw [← hn, List.take_length, hn] at h2
    exact ⟨h1, h2⟩
  have hl1 : (cellsI (cs.take j)).length = j * 2 := by rw [cellsI_len, List.length_take]; omega
  have hl2 : (cellsI (cs.drop j)).length = (n - j) * 2 := by rw [cellsI_len, List.length_drop]; omega
  have HF := hid9 hfin
  have HC0 := hid9 hc0
  have hj2 : j ≤ n := by omega
  subst e0
  clear hz hk hls hz0 ej hA hE hM g3 g1 hfin hc hc0 hx0 b0 hw0
  go_enter Try.func4, Try.ntmps4
  go_wp2_with (first
      | (go_at_call 14; refine HL.out.mono ?_; clear HL; rintro e w1 ⟨la, ln, lc, rfl, hln, HS⟩)
      | (go_at_call 9; refine (HOc.out la _ HS.out).mono ?_; clear HOc; rintro e w2 ⟨a1, c1, rfl, HQ⟩)
      | (go_at_call 10; refine (HPc.out _ _ _ _ _ _ hln.out HQ.out.1 HQ.out.2).mono ?_; clear HQ HPc HS; rintro e w3 ⟨rfl, ⟨x0, x1⟩, HS⟩)
      | (go_at_call 12; refine (num9_any _ _).mono ?_; rintro e w9 ⟨rfl, w9e⟩; rw [w9e]; clear w9e)
      | (go_at_call 8; refine (HKn.out _ _ HS.out).mono ?_; clear HKn HS; rintro e w8 ⟨rfl, HS⟩)
      | fail)
  all_goals try (exfalso; omega)
  all_goals
    have bw : Below w.heap.size w w3 := HF.out _ _ _ HS.out
    refine wp_region_each (by kernel_rfl) 135 rfl (by kernel_rfl) (fun _ W => Below w3.heap.size w3 W) (MP w3.heap.size n j cs (.slice ca n cc) (.int .i64 (j : Int)) (sliced ca 0 j cc 2) (sliced ca j n cc 2) o a) ?start ?each ?fin
    case start => exact (Below.refl _ _).drew
    case each =>
      intro i o' ho' listed act W hE hnl haf
      have hi : i < 13 := (Array.getElem?_eq_some_iff.1 ho').1
      have t0 : act.tmps[0]?.getD undef = .slice ca n cc := hE.rest 0 (rest_of (by kernel_rfl))
      have t3 : act.tmps[3]?.getD undef = .int .i64 (j : Int) := hE.rest 3 (rest_of (by kernel_rfl))
      have t6 : act.tmps[6]?.getD undef = .pointer (some ⟨w.heap.size, 0, none⟩) := hE.rest 6 (rest_of (by kernel_rfl))
      have hG := hE.glob
      have hsW : w3.heap.size ≤ W.heap.size := hG.size
      have hoff := getD_off hnl
      have hL := HL3.out W (bw.trans (hG.mono bw.size))
      have y0 : W.cell? ⟨w.heap.size, 0, none⟩ = some (.int .i64 o) := below_keep hG _ _ x0
      have y1 : W.cell? ⟨w.heap.size, 1, none⟩ = some (.int .i64 a) := below_keep hG _ _ x1
      have step : ∀ v W', Below W.heap.size W W' → MP w3.heap.size n j cs (.slice ca n cc) (.int .i64 (j : Int)) (sliced ca 0 j cc 2) (sliced ca j n cc 2) o a (listed.setIfInBounds i true) i v W' → ∃ u, act.put o'.dst v = act.put o'.dst u ∧ MP w3.heap.size n j cs (.slice ca n cc) (.int .i64 (j : Int)) (sliced ca 0 j cc 2) (sliced ca j n cc 2) o a (listed.setIfInBounds i true) i u W' ∧ Below w3.heap.size w3 W' ∧ ∀ k u, listed.getD k false = true → MP w3.heap.size n j cs (.slice ca n cc) (.int .i64 (j : Int)) (sliced ca 0 j cc 2) (sliced ca j n cc 2) o a listed k u W → MP w3.heap.size n j cs (.slice ca n cc) (.int .i64 (j : Int)) (sliced ca 0 j cc 2) (sliced ca j n cc 2) o a (listed.setIfInBounds i true) k u W' := fun v W' hb hv => ⟨v, rfl, hv, hG.trans (hb.mono hsW), MP.below hb⟩
      match i, hi, ho', hnl, haf, hoff, step with
      | 0, _, ho', hnl, haf, hoff, step =>
        obtain rfl := Option.some.inj ho'
        exact op_value (v := .slice (some ⟨W.heap.size, 0, none⟩) 0 0) (W' := W.alloc (.cells #[] 35)) (by simp [execOp, go_sem]) (step _ _ ((Below.refl _ W).alloc (Nat.le_refl _) _) (.inr ⟨_, rfl, hsW, heap_alloc_new W _⟩))
      | 1, _, ho', hnl, haf, hoff, step =>
        obtain rfl := Option.some.inj ho'
        exact op_value (v := .slice ca n cc) (W' := W) (by simp [execOp, go_sem, t0]) (step _ _ (Below.refl _ _) rfl)
      | 2, _, ho', hnl, haf, hoff, step =>
        obtain rfl := Option.some.inj ho'
        exact op_value (v := .int .i64 (j : Int)) (W' := W) (by simp [execOp, go_sem, t3]) (step _ _ (Below.refl _ _) rfl)
      | 3, _, ho', hnl, haf, hoff, step =>
        obtain rfl := Option.some.inj ho'
        have h1 := hE.vals 1 _ 65 rfl (haf ⟨1, .data⟩ (by simp) rfl) rfl
        have h2 := hE.vals 2 _ 66 rfl (haf ⟨2, .data⟩ (by simp) rfl) rfl
        simp only [MP] at h1 h2
        exact op_value (v := sliced ca 0 j cc 2) (W' := W) (by simp [execOp, eval_tmp, h1, h2, slice_h_run W ca n cc j (by omega)]) (step _ _ (Below.refl _ _) rfl)
      | 4, _, ho', hnl, haf, hoff, step =>
        obtain rfl := Option.some.inj ho'
        have h0 := hE.vals 0 _ 64 rfl (haf ⟨0, .data⟩ (by simp) rfl) rfl
        have h2 := hE.vals 3 _ 67 rfl (haf ⟨3, .data⟩ (by simp) rfl) rfl
        simp only [MP] at h0 h2
        rw [hoff] at h0
        rcases h0 with h0 | ⟨g, hu, hgb, hgl⟩
        · cases h0
        refine wp_app0 W (.tmp 64) (.tmp 67) 22 rfl elemN_ins w3.heap.size g hgb hgl ((eval_tmp _ _).trans hu) _ ((eval_tmp _ _).trans h2) j (cellsI (cs.take j)) hL.1 hl1 (cellsI_one _) (by unfold maxLen; omega) (by omega) hsW ?_
        intro v' W' hr' hb'
        exact step _ _ hb' (.inr hr')
      | 5, _, ho', hnl, haf, hoff, step =>
        obtain rfl := Option.some.inj ho'
        exact op_value (v := .agg #[.int .i64 o, .int .i64 a]) (W' := W) (by simp [execOp, go_sem, t6, y0, y1]) (step _ _ (Below.refl _ _) rfl)
      | 6, _, ho', hnl, haf, hoff, step =>
        obtain rfl := Option.some.inj ho'
        have h5 := hE.vals 5 _ 69 rfl (haf ⟨5, .data⟩ (by simp) rfl) rfl
        simp only [MP] at h5
        exact op_value (v := .slice (some ⟨W.heap.size, 0, none⟩) 1 1) (W' := W.alloc (.cells #[.int .i64 o, .int .i64 a] 35)) (by simp [execOp, go_sem, h5]) (step _ _ ((Below.refl _ W).alloc (Nat.le_refl _) _) (.inr ⟨_, rfl, heap_alloc_new W _⟩))
      | 7, _, ho', hnl, haf, hoff, step =>
        obtain rfl := Option.some.inj ho'
        have l4 := haf ⟨4, .data⟩ (by simp) rfl
        have l6 := haf ⟨6, .data⟩ (by simp) rfl
        have h4 := hE.vals 4 _ 68 rfl l4 rfl
        have h6 := hE.vals 6 _ 70 rfl l6 rfl
        simp only [MP] at h4 h6
        rw [hoff] at h4 h6
        rcases h4 with h4 | h4
        · cases h4
        rcases h6 with h6 | ⟨g, h6, hg⟩
        · cases h6
        refine wp_appN W (.tmp 68) (.tmp 70) 22 rfl elemN_ins w3.heap.size _ j (cellsI (cs.take j)) (eval_tmp _ _) h4 _ ((eval_tmp _ _).trans h6) 1 (cellsI [(o, a)]) (.inr ⟨⟨g, 0, none⟩, 1, rfl, row_cells9 hg⟩) rfl (cellsI_one _) (by unfold maxLen; omega) (by omega) hsW ?_
        intro v' W' hr' hs'
        refine ⟨v', rfl, .inr hr', hG.trans (hs'.below hsW fun q h => (h4.lt q h).1), ?_⟩
        intro q u hq h
        have n7 : q ≠ 7 := fun e => by subst e; rw [hoff] at hq; cases hq
        have n11 : q ≠ 11 := fun e => by
          subst e
          have := hE.closed 11 _ rfl hq ⟨7, .data⟩ (by simp) rfl
          rw [hoff] at this; cases this
        have n12 : q ≠ 12 := fun e => by
          subst e
          have := hE.closed 11 _ rfl (hE.closed 12 _ rfl hq ⟨11, .data⟩ (by simp) rfl) ⟨7, .data⟩ (by simp) rfl
          rw [hoff] at this; cases this
        have s7 : (listed.setIfInBounds 7 true).getD 7 false = true := by rw [getD_set, if_pos ⟨rfl, getD_lt hnl⟩]
        unfold MP at h ⊢
        split at h
        all_goals first
          | exact h
          | exact .inl (getD_more l4)
          | exact .inl s7
          | exact absurd rfl n7
          | exact absurd rfl n11
          | exact absurd rfl n12
      | 8, _, ho', hnl, haf, hoff, step =>
        obtain rfl := Option.some.inj ho'
        exact op_value (v := .slice ca n cc) (W' := W) (by simp [execOp, go_sem, t0]) (step _ _ (Below.refl _ _) rfl)
      | 9, _, ho', hnl, haf, hoff, step =>
        obtain rfl := Option.some.inj ho'
        exact op_value (v := .int .i64 (j : Int)) (W' := W) (by simp [execOp, go_sem, t3]) (step _ _ (Below.refl _ _) rfl)
      | 10, _, ho', hnl, haf, hoff, step =>
        obtain rfl := Option.some.inj ho'
        have h1 := hE.vals 8 _ 72 rfl (haf ⟨8, .data⟩ (by simp) rfl) rfl
        have h2 := hE.vals 9 _ 73 rfl (haf ⟨9, .data⟩ (by simp) rfl) rfl
        simp only [MP] at h1 h2
        exact op_value (v := sliced ca j n cc 2) (W' := W) (by simp [execOp, eval_tmp, h1, h2, slice_l_run W ca n cc j (by omega)]) (step _ _ (Below.refl _ _) rfl)
      | 11, _, ho', hnl, haf, hoff, step =>
        obtain rfl := Option.some.inj ho'
        have l7 := haf ⟨7, .data⟩ (by simp) rfl
        have h7 := hE.vals 7 _ 71 rfl l7 rfl
        have h10 := hE.vals 10 _ 74 rfl (haf ⟨10, .data⟩ (by simp) rfl) rfl
        simp only [MP] at h7 h10
        rw [hoff] at h7
        rcases h7 with h7 | h7
        · cases h7
        refine wp_appN W (.tmp 71) (.tmp 74) 22 rfl elemN_ins w3.heap.size _ (j + 1) (cellsI (cs.take j) ++ cellsI [(o, a)]) (eval_tmp _ _) h7 _ ((eval_tmp _ _).trans h10) (n - j) (cellsI (cs.drop j)) hL.2 hl2 (cellsI_one _) (by unfold maxLen; omega) (by omega) hsW ?_
        intro v' W' hr' hs'
        refine ⟨v', rfl, hr', hG.trans (hs'.below hsW fun q h => (h7.lt q h).1), ?_⟩
        intro q u hq h
        have l4 := hE.closed 7 _ rfl l7 ⟨4, .data⟩ (by simp) rfl
        have n11 : q ≠ 11 := fun e => by subst e; rw [hoff] at hq; cases hq
        have n12 : q ≠ 12 := fun e => by
          subst e
          have := hE.closed 12 _ rfl hq ⟨11, .data⟩ (by simp) rfl
          rw [hoff] at this; cases this
        have s11 : (listed.setIfInBounds 11 true).getD 11 false = true := by rw [getD_set, if_pos ⟨rfl, getD_lt hnl⟩]
        unfold MP at h ⊢
        split at h
        all_goals first
          | exact h
          | exact .inl (getD_more l4)
          | exact .inl (getD_more l7)
          | exact .inl s11
          | exact absurd rfl n11
          | exact absurd rfl n12
      | 12, _, ho', hnl, haf, hoff, step =>
        obtain rfl := Option.some.inj ho'
        have h11 := hE.vals 11 _ 75 rfl (haf ⟨11, .data⟩ (by simp) rfl) rfl
        simp only [MP] at h11
        exact op_value (v := act.tmps[75]?.getD undef) (W' := W) (by simp [execOp, go_sem]) (step _ _ (Below.refl _ _) h11)
    case fin =>
      intro act W hE
      have h12 := hE.vals 12 _ 12 rfl (by rfl) rfl
      have hsz := hE.tsize
      have hdf := hE.defers
      have hlo := hE.glob
      simp only [MP] at h12
      have r := fun t h => hE.rest t h
      obtain ⟨tm, df⟩ := act
      simp only at hsz hdf h12 r
      have htm := arr_out 135 tm (by rw [hsz]; rfl) undef
      simp only [List.range, List.range.loop, List.map_cons, List.map_nil] at htm
      rw [show tm[0]?.getD undef = .slice ca n cc from r 0 (rest_of (by kernel_rfl))] at htm
      rw [show tm[1]?.getD undef = .slice na k nc from r 1 (rest_of (by kernel_rfl))] at htm
      rw [show tm[2]?.getD undef = .agg #[.int .i64 o, .int .i64 a] from r 2 (rest_of (by kernel_rfl))] at htm
      rw [show tm[3]?.getD undef = .int .i64 (j : Int) from r 3 (rest_of (by kernel_rfl))] at htm
      rw [show tm[4]?.getD undef = undef from r 4 (rest_of (by kernel_rfl))] at htm
      rw [show tm[5]?.getD undef = undef from r 5 (rest_of (by kernel_rfl))] at htm
      rw [show tm[6]?.getD undef = .pointer (some ⟨w.heap.size, 0, none⟩) from r 6 (rest_of (by kernel_rfl))] at htm
      rw [show tm[7]?.getD undef = undef from r 7 (rest_of (by kernel_rfl))] at htm
      rw [show tm[8]?.getD undef = .bool false from r 8 (rest_of (by kernel_rfl))] at htm
      rw [show tm[9]?.getD undef = .slice la ln lc from r 9 (rest_of (by kernel_rfl))] at htm
      rw [show tm[10]?.getD undef = .int .i64 (A : Int) from r 10 (rest_of (by kernel_rfl))] at htm
      rw [show tm[11]?.getD undef = .int .i64 0 from r 11 (rest_of (by kernel_rfl))] at htm
      rw [show tm[13]?.getD undef = undef from r 13 (rest_of (by kernel_rfl))] at htm
      rw [show tm[14]?.getD undef = undef from r 14 (rest_of (by kernel_rfl))] at htm
      rw [show tm[15]?.getD undef = undef from r 15 (rest_of (by kernel_rfl))] at htm
      rw [show tm[16]?.getD undef = undef from r 16 (rest_of (by kernel_rfl))] at htm
      rw [show tm[17]?.getD undef = undef from r 17 (rest_of (by kernel_rfl))] at htm
      generalize tm[12]?.getD undef = v at htm h12
      generalize tm[18]?.getD undef = u18 at htm
      generalize tm[19]?.getD undef = u19 at htm
      generalize tm[20]?.getD undef = u20 at htm
      generalize tm[21]?.getD undef = u21 at htm
      generalize tm[22]?.getD undef = u22 at htm
      generalize tm[23]?.getD undef = u23 at htm
      generalize tm[24]?.getD undef = u24 at htm
      generalize tm[25]?.getD undef = u25 at htm
      generalize tm[26]?.getD undef = u26 at htm
      generalize tm[27]?.getD undef = u27 at htm
      generalize tm[28]?.getD undef = u28 at htm
      generalize tm[29]?.getD undef = u29 at htm
      generalize tm[30]?.getD undef = u30 at htm
      generalize tm[31]?.getD undef = u31 at htm
      generalize tm[32]?.getD undef = u32 at htm
      generalize tm[33]?.getD undef = u33 at htm
      generalize tm[34]?.getD undef = u34 at htm
      generalize tm[35]?.getD undef = u35 at htm
      generalize tm[36]?.getD undef = u36 at htm
      generalize tm[37]?.getD undef = u37 at htm
      generalize tm[38]?.getD undef = u38 at htm
      generalize tm[39]?.getD undef = u39 at htm
      generalize tm[40]?.getD undef = u40 at htm
      generalize tm[41]?.getD undef = u41 at htm
      generalize tm[42]?.getD undef = u42 at htm
      generalize tm[43]?.getD undef = u43 at htm
      generalize tm[44]?.getD undef = u44 at htm
      generalize tm[45]?.getD undef = u45 at htm
      generalize tm[46]?.getD undef = u46 at htm
      generalize tm[47]?.getD undef = u47 at htm
      generalize tm[48]?.getD undef = u48 at htm
      generalize tm[49]?.getD undef = u49 at htm
      generalize tm[50]?.getD undef = u50 at htm
      generalize tm[51]?.getD undef = u51 at htm
      generalize tm[52]?.getD undef = u52 at htm
      generalize tm[53]?.getD undef = u53 at htm
      generalize tm[54]?.getD undef = u54 at htm
      generalize tm[55]?.getD undef = u55 at htm
      generalize tm[56]?.getD undef = u56 at htm
      generalize tm[57]?.getD undef = u57 at htm
      generalize tm[58]?.getD undef = u58 at htm
      generalize tm[59]?.getD undef = u59 at htm
      generalize tm[60]?.getD undef = u60 at htm
      generalize tm[61]?.getD undef = u61 at htm
      generalize tm[62]?.getD undef = u62 at htm
      generalize tm[63]?.getD undef = u63 at htm
      generalize tm[64]?.getD undef = u64 at htm
      generalize tm[65]?.getD undef = u65 at htm
      generalize tm[66]?.getD undef = u66 at htm
      generalize tm[67]?.getD undef = u67 at htm
      generalize tm[68]?.getD undef = u68 at htm
      generalize tm[69]?.getD undef = u69 at htm
      generalize tm[70]?.getD undef = u70 at htm
      generalize tm[71]?.getD undef = u71 at htm
      generalize tm[72]?.getD undef = u72 at htm
      generalize tm[73]?.getD undef = u73 at htm
      generalize tm[74]?.getD undef = u74 at htm
      generalize tm[75]?.getD undef = u75 at htm
      generalize tm[76]?.getD undef = u76 at htm
      generalize tm[77]?.getD undef = u77 at htm
      generalize tm[78]?.getD undef = u78 at htm
      generalize tm[79]?.getD undef = u79 at htm
      generalize tm[80]?.getD undef = u80 at htm
      generalize tm[81]?.getD undef = u81 at htm
      generalize tm[82]?.getD undef = u82 at htm
      generalize tm[83]?.getD undef = u83 at htm
      generalize tm[84]?.getD undef = u84 at htm
      generalize tm[85]?.getD undef = u85 at htm
      generalize tm[86]?.getD undef = u86 at htm
      generalize tm[87]?.getD undef = u87 at htm
      generalize tm[88]?.getD undef = u88 at htm
      generalize tm[89]?.getD undef = u89 at htm
      generalize tm[90]?.getD undef = u90 at htm
      generalize tm[91]?.getD undef = u91 at htm
      generalize tm[92]?.getD undef = u92 at htm
      generalize tm[93]?.getD undef = u93 at htm
      generalize tm[94]?.getD undef = u94 at htm
      generalize tm[95]?.getD undef = u95 at htm
      generalize tm[96]?.getD undef = u96 at htm
      generalize tm[97]?.getD undef = u97 at htm
      generalize tm[98]?.getD undef = u98 at htm
      generalize tm[99]?.getD undef = u99 at htm
      generalize tm[100]?.getD undef = u100 at htm
      generalize tm[101]?.getD undef = u101 at htm
      generalize tm[102]?.getD undef = u102 at htm
      generalize tm[103]?.getD undef = u103 at htm
      generalize tm[104]?.getD undef = u104 at htm
      generalize tm[105]?.getD undef = u105 at htm
      generalize tm[106]?.getD undef = u106 at htm
      generalize tm[107]?.getD undef = u107 at htm
      generalize tm[108]?.getD undef = u108 at htm
      generalize tm[109]?.getD undef = u109 at htm
      generalize tm[110]?.getD undef = u110 at htm
      generalize tm[111]?.getD undef = u111 at htm
      generalize tm[112]?.getD undef = u112 at htm
      generalize tm[113]?.getD undef = u113 at htm
      generalize tm[114]?.getD undef = u114 at htm
      generalize tm[115]?.getD undef = u115 at htm
      generalize tm[116]?.getD undef = u116 at htm
      generalize tm[117]?.getD undef = u117 at htm
      generalize tm[118]?.getD undef = u118 at htm
      generalize tm[119]?.getD undef = u119 at htm
      generalize tm[120]?.getD undef = u120 at htm
      generalize tm[121]?.getD undef = u121 at htm
      generalize tm[122]?.getD undef = u122 at htm
      generalize tm[123]?.getD undef = u123 at htm
      generalize tm[124]?.getD undef = u124 at htm
      generalize tm[125]?.getD undef = u125 at htm
      generalize tm[126]?.getD undef = u126 at htm
      generalize tm[127]?.getD undef = u127 at htm
      generalize tm[128]?.getD undef = u128 at htm
      generalize tm[129]?.getD undef = u129 at htm
      generalize tm[130]?.getD undef = u130 at htm
      generalize tm[131]?.getD undef = u131 at htm
      generalize tm[132]?.getD undef = u132 at htm
      generalize tm[133]?.getD undef = u133 at htm
      generalize tm[134]?.getD undef = u134 at htm
      subst hdf
      rw [htm]
      clear hE htm hsz r
      obtain ⟨va, vc, rfl, HR⟩ := mo_row HS.out hlo h12
      clear h12 HL3 bw hlo
      go_wp2_with (first
        | (go_at_call 10; refine (HPm.out _ _ _ _ _ _ hln.out HR.out.1 HR.out.2).mono ?_; clear HPm HR HS; rintro e w5 ⟨rfl, ⟨z0, z1⟩, HS⟩)
        | (go_at_call 12; refine (num9_any _ _).mono ?_; rintro e w9 ⟨rfl, w9e⟩; rw [w9e]; clear w9e)
        | fail)
      have HCw : Hid (IsAt w5.cell? ca cs) := hid9 (HC0.out.keep (below_keep HS.out.1))
      clear HC0 x0 x1 HF
      go_loopw [16, 17] (fun dv iv wr => ∃ i : Nat, iv = .int .i64 i ∧ i ≤ j ∧ dv = .int .i64 (deep9 (cs.take i)) ∧ w5 = wr) (fun _ iv _ => j - (intOf iv).toNat)
      case atStart => exact ⟨0, rfl, Nat.zero_le _, by simp [deep9], rfl⟩
      case round =>
        obtain ⟨i, rfl, hij, rfl, rfl⟩ := hrel
        by_cases hlt : i < j
        · have hil : i < cs.length := by omega
          obtain ⟨cb, co, e1, q1⟩ : ∃ cb co, ca = some ⟨cb, co, none⟩ ∧ w5.cell? ⟨cb, co + i * 2, none⟩ = some (.int .i64 cs[i].1) := by
            rcases HCw.out with h | ⟨b, o, e, h⟩
            · rw [h] at hil; cases hil
            · exact ⟨b, o, e, (h i hil).1⟩
          subst e1
          have hD : deep9 (cs.take (i + 1)) = deep9 (cs.take i) + (if cs[i].1 = 48 ∨ cs[i].1 = 51 then 1 else if cs[i].1 = 50 then -1 else 0) := by
            rw [List.take_succ_eq_append_getElem hil, deep9_snoc]
          have hDl := deep9_le (cs.take i)
          rw [List.length_take] at hDl
          obtain ⟨D1, hD1⟩ : ∃ D1, D1 = deep9 (cs.take (i + 1)) := ⟨_, rfl⟩
          rw [← hD1] at hD
          have HD1 := hid9 hD1
          clear hD1
          generalize deep9 (cs.take i) = D0 at *
          generalize cs[i].1 = y at *
          have HD := hid9 hD
          clear hD HCw
          have hd1 : -200 ≤ D0 := by omega
          have hd2 : D0 ≤ 200 := by omega
          clear hDl
          by_cases y1 : y = 48
          · subst y1
            go_wp2_with fail
            exact ⟨⟨i + 1, by go_num, by omega, by have := HD.out; simp at this; rw [← HD1.out, this], by first | trivial | rfl⟩, by simp [intOf]; omega⟩
          by_cases y2 : y = 51
          · subst y2
            go_wp2_with fail
            exact ⟨⟨i + 1, by go_num, by omega, by have := HD.out; simp at this; rw [← HD1.out, this], by first | trivial | rfl⟩, by simp [intOf]; omega⟩
          by_cases y3 : y = 50
          · subst y3
            go_wp2_with fail
            exact ⟨⟨i + 1, by go_num, by omega, by have := HD.out; simp at this; rw [← HD1.out, this]; rfl, by first | trivial | rfl⟩, by simp [intOf]; omega⟩
          · have n1 : (y == 48) = false := by simpa using y1
            have n2 : (y == 51) = false := by simpa using y2
            have n3 : (y == 50) = false := by simpa using y3
            have e9 : D1 = D0 := by have := HD.out; rw [if_neg (by omega), if_neg y3] at this; omega
            subst e9
            go_wp2_with fail
            exact ⟨⟨i + 1, by go_num, by omega, by rw [← HD1.out], by first | trivial | rfl⟩, by simp [intOf]; omega⟩
        · have e : i = j := by omega
          subst e
          have hDl := deep9_le (cs.take i)
          generalize deep9 (cs.take i) = D at *
          have hK := (costT_pos o).2
          go_wp2_with (first
            | (go_at_call 15; refine (cost9_any _ _).mono ?_; rintro e w9 ⟨rfl, w9e⟩; rw [w9e]; clear w9e)
            | (go_at_call 8; refine (HKn.out _ _ HS.out).mono ?_; clear HKn HS; rintro e w8 ⟨rfl, HS⟩)
            | fail)
          all_goals first | (go_ret; exact ⟨rfl, HS.out⟩) | (go_ret; refine ⟨?_, HS.out⟩; simp; first | assumption | omega) | (exfalso; have := G3.out (by omega); unfold cut TM at this; omega)
end Go.Proofs.Ytodagpmcmjleaaa
