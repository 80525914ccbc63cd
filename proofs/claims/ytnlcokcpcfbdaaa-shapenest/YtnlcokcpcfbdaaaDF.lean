/- The document's Match, Depth and Around. -/
import Derived.Test.YtnlcokcpcfbdaaaDE
import Derived.Test.YtnlcokcpcfbdaaaSM
import Derived.Test.YtnlcokcpcfbdaaaSQ
namespace Go.Proofs.Ytnlcokcpcfbdaaa
open Go.RowKit
theorem good_nil : goodS [] = true := by decide
set_option maxRecDepth 100000 in
set_option maxHeartbeats 1000000 in
theorem rmatch_nil (ca : Option Addr) (cc : Nat) (w : World) : Calls Try.prog 12 #[.slice ca 0 cc] w (MatchEnd [] w) := by
  have hmk := make_run 0 (by omega) w
  have b1 := (Below.refl _ w).alloc (Nat.le_refl _) (.cells (cellsN (fillS 0 0)).toArray 3)
  have n1 : NumBlk w.heap.size (matchS []) (w.alloc (.cells (cellsN (fillS 0 0)).toArray 3)) := heap_alloc_new w _
  generalize w.alloc (.cells (cellsN (fillS 0 0)).toArray 3) = w1 at hmk b1 n1
  have HE : Hid (MatchEnd [] w (.returned (.tuple #[.slice (some ⟨w.heap.size, 0, none⟩) 0 0, .int .i64 0])) w1) := hid6 ⟨by rw [if_pos good_nil]; exact ⟨_, Nat.le_refl _, rfl, n1⟩, b1⟩
  clear b1 n1
  go_enter Try.func12, Try.ntmps12
  have hmk' : Sem.run Try.prog (Instr.makeSlice 25 (.int .i64 0) (.int .i64 0)) w = .ok (.slice (some ⟨w.heap.size, 0, none⟩) 0 0) w1 := hmk
  go_wp2
  go_loopw [5] (fun iv wr => iv = .int .i64 0 ∧ wr = w1) (fun _ _ => 0)
  case atStart => exact ⟨rfl, rfl⟩
  case round =>
    obtain ⟨rfl, rfl⟩ := hrel
    go_wp2
    go_loopw [6] (fun iv w5 => iv = .int .i64 0 ∧ w5 = wr) (fun _ _ => 0)
    case atStart => exact ⟨rfl, rfl⟩
    case round =>
      obtain ⟨rfl, rfl⟩ := hrel
      go_wp2
      go_loopw [9] (fun iv w5 => iv = .int .i64 0 ∧ w5 = wr) (fun _ _ => 0)
      case atStart => exact ⟨rfl, rfl⟩
      case round =>
        obtain ⟨rfl, rfl⟩ := hrel
        go_wp2
        go_loopw [10] (fun iv w5 => iv = .int .i64 0 ∧ w5 = wr) (fun _ _ => 0)
        case atStart => exact ⟨rfl, rfl⟩
        case round =>
          obtain ⟨rfl, rfl⟩ := hrel
          go_wp2
          go_ret2
          exact HE.out
theorem rmatch_any (cs : List (Int × Int)) (ca : Option Addr) (cc n : Nat) (hn : cs.length = n) (bn : n ≤ 1000000) (w : World) (hc : IsAt w.cell? ca cs) : Calls Try.prog 12 #[.slice ca n cc] w (MatchEnd cs w) := by
  by_cases h0 : n = 0
  · subst h0
    have : cs = [] := List.eq_nil_of_length_eq_zero hn
    subst this
    exact rmatch_nil ca cc w
  · obtain ⟨b, off, rfl⟩ := is_some hc (by omega)
    exact rmatch_some cs b off cc n hn bn (by omega) w hc
/-- How deep the document finds them. -/
def docD (op : Nat → Int) : Nat → Nat
  | 0 => 0
  | k + 1 => max (docD op k) ((stk op k).length + (if Opn op k then 1 else 0))
theorem stk_opn {op : Nat → Int} {k : Nat} (h : Opn op k) : (stk op (k + 1)).length = (stk op k).length + 1 := by
  have h' : op k = 48 ∨ op k = 51 := h
  rw [stk, stepS, if_pos h', List.length_append]; rfl
theorem docD_dep (cs : List (Int × Int)) : ∀ k, dep cs k ≤ docD (opA cs) k ∧ docD (opA cs) k ≤ max (dep cs k) (stk (opA cs) k).length
  | 0 => ⟨Nat.le_refl _, Nat.zero_le _⟩
  | k + 1 => by
    obtain ⟨a, b⟩ := docD_dep cs k
    rw [docD, dep, mst_stk]
    by_cases h : Opn (opA cs) k
    · rw [if_pos h, stk_opn h]; omega
    · rw [if_neg h]; omega
theorem docD_all {cs : List (Int × Int)} (N : Nest (opA cs) cs.length) : docD (opA cs) cs.length = dep cs cs.length := by
  have := docD_dep cs cs.length
  rw [N.nil] at this
  simp only [List.length_nil] at this
  omega
theorem docD_le (op : Nat → Int) : ∀ k, docD op k ≤ k
  | 0 => Nat.le_refl _
  | k + 1 => by
    have := docD_le op k
    have := stk_len (op := op) k
    rw [docD]
    split <;> omega
set_option maxRecDepth 100000 in
set_option maxHeartbeats 1000000 in
theorem rdepth_any (cs : List (Int × Int)) (ca : Option Addr) (cc n : Nat) (hn : cs.length = n) (bn : n ≤ 1000000) (w : World) (hc : IsAt w.cell? ca cs) : Calls Try.prog 14 #[.slice ca n cc] w (DepthEnd cs w) := by
  have hM := rmatch_any cs ca cc n hn bn w hc
  cases hg : goodS cs with
  | false =>
    have hM : Calls Try.prog 12 #[.slice ca n cc] w fun e w' => e = .returned (.tuple #[.slice none 0 0, .int .i64 31]) ∧ Below w.heap.size w w' := hM.mono fun e w' ⟨h1, h2⟩ => ⟨by rw [if_neg (by rw [hg]; decide)] at h1; exact h1, h2⟩
    have HD : Hid (∀ W, Below w.heap.size w W → DepthEnd cs w (.returned (.tuple #[.int .i64 0, .int .i64 31])) W) := hid6 fun W hb => ⟨by rw [hg]; rfl, hb⟩
    clear hg hc hn
    go_enter Try.func14, Try.ntmps14
    go_wp2_with (first | (go_at_call 12; refine hM.mono ?_; clear hM; rintro e w1 ⟨rfl, b1⟩) | fail)
    go_ret2
    exact HD.out _ b1
  | true =>
    have NN := hid6 (good_nest hg)
    have HG := hid6 (match_gm hg)
    have hM : Calls Try.prog 12 #[.slice ca n cc] w fun e w' => ∃ g, e = .returned (.tuple #[.slice (some ⟨g, 0, none⟩) n n, .int .i64 0]) ∧ NumBlk g (matchS cs) w' ∧ Below w.heap.size w w' := hM.mono fun e w' ⟨h1, h2⟩ => by
      rw [if_pos hg, hn] at h1
      obtain ⟨g, _, h3, h4⟩ := h1
      exact ⟨g, h3, h4, h2⟩
    have HD : Hid (∀ W, Below w.heap.size w W → DepthEnd cs w (.returned (.tuple #[.int .i64 (docD (opA cs) n : Nat), .int .i64 0])) W) := hid6 fun W hb => ⟨by subst hn; rw [hg, docD_all NN.out]; rfl, hb⟩
    have HC : Hid (∀ W, Below w.heap.size w W → IsAt W.cell? ca cs) := hid6 fun W hb => hc.keep fun a v h => (hb.cell (World.block_lt_of_cell? w a h)).trans h
    clear hg hc
    go_enter Try.func14, Try.ntmps14
    go_wp2_with (first | (go_at_call 12; refine hM.mono ?_; clear hM; rintro e w1 ⟨g, rfl, N1, b1⟩; have N1 := hid6 N1) | fail)
    go_loopw [6, 7] (fun mv iv wr => ∃ k : Nat, mv = .int .i64 (docD (opA cs) k : Nat) ∧ iv = .int .i64 k ∧ k ≤ n ∧ Below w1.heap.size w1 wr) (fun _ iv _ => n - (intOf iv).toNat)
    case atStart => exact ⟨0, rfl, rfl, Nat.zero_le _, Below.refl _ _⟩
    case round =>
      obtain ⟨k, rfl, rfl, hk, bk⟩ := hrel
      have b2 := b1.trans (bk.mono b1.size)
      by_cases hkn : k < n
      · have hI := HC.out _ b2
        obtain ⟨cb, co, rfl⟩ := is_some hI (by omega)
        have c0 := cell_op hI k (by omega)
        have hF : Fit (opA cs) n (fun _ _ => True) (gI (matchS cs)) := by subst hn; exact HG.out.fit
        have hNN : Nest (opA cs) n := by subst hn; exact NN.out
        have hop := opened_any cs (matchS cs) cb co cc g n hn (by omega) k (by omega) _ hI ((bk.block _ (blk_lt N1.out)).trans N1.out) (fit_noted hNN ((matchS_len cs).trans hn) hF)
        rw [open_stk hNN hF (by omega)] at hop
        have hop := hid6 hop
        have HDn : Hid (docD (opA cs) (k + 1) = max (docD (opA cs) k) (((stk (opA cs) k).map Blk.s).length + (if Opn (opA cs) k then 1 else 0))) := hid6 (by rw [docD, List.length_map])
        have hsl : ((stk (opA cs) k).map Blk.s).length ≤ k := by rw [List.length_map]; exact stk_len k
        have hdl := docD_le (opA cs) k
        clear hI hF hNN
        unfold OpenEnd at hop
        generalize (stk (opA cs) k).map Blk.s = ss at hop HDn hsl
        generalize ss.length = l at hop HDn hsl
        generalize docD (opA cs) k = d at HDn hdl ⊢
        by_cases ho : Opn (opA cs) k
        · have hcase : (opA cs k = 48 ∨ opA cs k = 51) := ho
          rw [if_pos ho] at HDn
          clear ho
          generalize opA cs k = oo at c0 hcase
          rcases hcase with rfl | rfl
          all_goals
            go_wp2_with (first | (go_at_call 29; refine hop.out.mono ?_; clear hop; rintro e w7 ⟨a7, c7, rfl, hr7, b7⟩; have c0' := (b7.cell (World.block_lt_of_cell? _ _ c0)).trans c0; clear hr7) | fail)
            refine ⟨⟨k + 1, ?_, by go_num, by omega, bk.trans (b7.mono bk.size)⟩, by simp [intOf]; omega⟩
            rw [HDn.out]
            congr 1
            omega
        · have q1 : (opA cs k == 48) = false := by
            have : ¬ opA cs k = 48 := fun h => ho (.inl h)
            simpa using this
          have q2 : (opA cs k == 51) = false := by
            have : ¬ opA cs k = 51 := fun h => ho (.inr h)
            simpa using this
          rw [if_neg ho] at HDn
          clear ho
          generalize opA cs k = oo at c0 q1 q2
          go_wp2_with (first | (go_at_call 29; refine hop.out.mono ?_; clear hop; rintro e w7 ⟨a7, c7, rfl, hr7, b7⟩; have c0' := (b7.cell (World.block_lt_of_cell? _ _ c0)).trans c0; clear hr7) | fail)
          refine ⟨⟨k + 1, ?_, by go_num, by omega, bk.trans (b7.mono bk.size)⟩, by simp [intOf]; omega⟩
          rw [HDn.out]
          congr 1
          omega
      have hkn : k = n := by omega
      subst hkn
      go_wp2
      go_ret2
      exact HD.out _ b2
end Go.Proofs.Ytnlcokcpcfbdaaa
