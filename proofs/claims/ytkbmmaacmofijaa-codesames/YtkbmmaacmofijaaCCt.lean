/- code.Clone of any script. -/
import Derived.Test.YtkbmmaacmofijaaCCs
namespace Go.Proofs.Ytkbmmaacmofijaa
open Go.RowKit
/-- Behind the two copies: the new script's box, and its rows. -/
def Copied (W2 : World) (n0 n1 : Nat) (xs ys : List Value) (c : Value) (wx : World) : Prop := ∃ (Bc : Nat) (x0 x1 : Option Addr) (d0 d1 : Nat), c = .pointer (some ⟨Bc, 0, none⟩) ∧ wx.heap[Bc]? = some (.cells #[.slice x0 n0 d0, .slice x1 n1 d1] 25 (0, 0)) ∧ W2.heap.size ≤ Bc ∧ wx.ownsRow W2.heap.size 9 1 (.slice x0 n0 d0) n0 xs ∧ wx.ownsRow W2.heap.size 32 4 (.slice x1 n1 d1) n1 ys ∧ Below W2.heap.size W2 wx
theorem copied_new {W2 w5 : World} {n0 n1 : Nat} {xs ys : List Value} {x0 x1 : Option Addr} {d0 d1 : Nat} (q0 : w5.ownsRow W2.heap.size 9 1 (.slice x0 n0 d0) n0 xs) (q1 : w5.ownsRow W2.heap.size 32 4 (.slice x1 n1 d1) n1 ys) (hb : Below W2.heap.size W2 w5) : Copied W2 n0 n1 xs ys (.pointer (some ⟨w5.heap.size, 0, none⟩)) (w5.alloc (.cells #[.slice x0 n0 d0, .slice x1 n1 d1] 25)) :=
  ⟨_, x0, x1, d0, d1, rfl, heap_alloc_new w5 _, hb.size, World.ownsRow.alloc q0 _, World.ownsRow.alloc q1 _, hb.alloc hb.size _⟩
theorem row_set_other {w : World} {base n size b o : Nat} {e e' : TypeId} {v u : Value} {xs : List Value} {cs : Array Value} (h : w.ownsRow base e size v n xs) (hb : w.heap[b]? = some (.cells cs e' (0, 0))) (hne : e ≠ e') : (w.setCell ⟨b, o, none⟩ u).ownsRow base e size v n xs := by
  refine ⟨h.1, ?_⟩
  rcases h.2 with h2 | ⟨g, cap, cur, rfl, hg, hh, r⟩
  · exact .inl h2
  · refine .inr ⟨g, cap, cur, rfl, hg, ?_, r⟩
    rw [Below.heap_setCell _ _ _ _ (fun e2 => ?_)]
    · exact hh
    · have e3 : g = b := e2
      subst e3
      rw [hh] at hb
      cases hb
      exact hne rfl
theorem set4k_row_other {w : World} {base n size F o : Nat} {e e' : TypeId} {v : Value} {xs : List Value} {cs : Array Value} (x0 x1 x2 x3 : Value) (h : w.ownsRow base e size v n xs) (hb : w.heap[F]? = some (.cells cs e' (0, 0))) (hne : e ≠ e') : (set4k w F o x0 x1 x2 x3).ownsRow base e size v n xs :=
  row_set_other (row_set_other (row_set_other (row_set_other h hb hne) (set_blk _ hb) hne) (set_blk _ (set_blk _ hb)) hne) (set_blk _ (set_blk _ (set_blk _ hb))) hne
theorem copied_set {W2 w5 : World} {n0 n1 B : Nat} {xs ys : List Value} {x0 x1 : Option Addr} {d0 d1 : Nat} {y z : Value} (q0 : w5.ownsRow W2.heap.size 9 1 (.slice x0 n0 d0) n0 xs) (q1 : w5.ownsRow W2.heap.size 32 4 (.slice x1 n1 d1) n1 ys) (hb : Below W2.heap.size W2 w5) (hB : w5.heap[B]? = some (.cells #[y, z] 25 (0, 0))) (hle : W2.heap.size ≤ B) : Copied W2 n0 n1 xs ys (.pointer (some ⟨B, 0, none⟩)) ((w5.setCell ⟨B, 0, none⟩ (.slice x0 n0 d0)).setCell ⟨B, 1, none⟩ (.slice x1 n1 d1)) := by
  have h1 := set2_0 (u := .slice x0 n0 d0) hB
  exact ⟨B, x0, x1, d0, d1, rfl, set2_1 h1, hle, row_set_other (row_set_other q0 hB (by decide)) h1 (by decide), row_set_other (row_set_other q1 hB (by decide)) h1 (by decide), (hb.setCell (p := ⟨B, 0, none⟩) hle _).setCell (p := ⟨B, 1, none⟩) hle _⟩
set_option maxRecDepth 100000 in
set_option maxHeartbeats 1000000 in
theorem clone4_any (s : Scr) (V0 V1 : Value) (w : World) (hs : ScIs w.cell? s V0 V1) (hsf : s.fits) : Calls Try.prog 24 #[.agg #[V0, V1]] w (CloneSEnd s w) := by
  obtain ⟨⟨A0, C0, rfl, h0⟩, ⟨A1, C1, rfl, h1⟩⟩ := hs
  obtain ⟨ys, hl1, hF1, ho1⟩ := h1.lies C1
  have hl0 := h0.lies C0
  have zF : ys.length = s.funcs.length * 4 := hF1.1
  have hS1 : ∀ W, Below w.heap.size w W → Calls Try.prog 46 #[.slice A0 s.consts.length C0] W (CopyEnd 9 1 s.consts.length (cellsS s.consts) W) := fun W hW => copyS A0 _ C0 _ W (hl0.keep (below_keep hW)) (cellsS_len _) (cellsS_one _) hsf.1
  have hS2 : ∀ W, Below w.heap.size w W → Calls Try.prog 47 #[.slice A1 s.funcs.length C1] W (CopyEnd 32 4 s.funcs.length ys W) := fun W hW => copyF A1 _ C1 _ W (hl1.keep (below_keep hW)) zF ho1 hsf.2.1
  have hff := hsf.2.2.1
  obtain ⟨n0, hn0⟩ : ∃ n, n = s.consts.length := ⟨_, rfl⟩
  obtain ⟨n1, hn1⟩ : ∃ n, n = s.funcs.length := ⟨_, rfl⟩
  rw [← hn0] at hS1 ⊢
  rw [← hn1] at hS2 ⊢
  have z1 : n1 ≤ 1466015503701 := by rw [hn1]; exact hsf.2.1
  have HC := hid hn0
  have HF := hid hn1
  clear hn0 hn1
  obtain ⟨W2, hW2⟩ : ∃ W2, W2 = (w.alloc (.cells #[.slice A0 n0 C0, .slice A1 n1 C1] 25)).alloc (.cells #[.slice none 0 0, .slice none 0 0] 25) := ⟨_, rfl⟩
  have hz2 : w.heap.size + 2 ≤ W2.heap.size := by rw [hW2]; simp
  have hb2 : Below w.heap.size w W2 := by rw [hW2]; exact ((Below.refl _ w).alloc (Nat.le_refl _) _).alloc (by simp) _
  have bA : W2.heap[w.heap.size]? = some (.cells #[.slice A0 n0 C0, .slice A1 n1 C1] 25 (0, 0)) := by rw [hW2, Below.heap_alloc _ _ _ (by simp)]; exact heap_alloc_new w _
  have bB : W2.heap[w.heap.size + 1]? = some (.cells #[.slice none 0 0, .slice none 0 0] 25 (0, 0)) := by
    have := heap_alloc_new (w.alloc (.cells #[.slice A0 n0 C0, .slice A1 n1 C1] 25)) (.cells #[.slice none 0 0, .slice none 0 0] 25)
    rw [hW2]; simpa using this
  have hSk : ∀ W, Below W2.heap.size W2 W → W.cell? ⟨w.heap.size, 0, none⟩ = some (.slice A0 n0 C0) ∧ W.cell? ⟨w.heap.size, 1, none⟩ = some (.slice A1 n1 C1) := fun W hW => by
    obtain ⟨q0, q1, _, _⟩ := cells2 ((hW.block _ (lt_of_block bA)).trans bA)
    exact ⟨q0, q1⟩
  have lift : ∀ W, Below W2.heap.size W2 W → Below w.heap.size w W := fun W h => hb2.trans (h.mono hb2.size)
  have hb3 : Below W2.heap.size W2 W2.drew := (Below.refl _ _).drew
  obtain ⟨p0, p1⟩ := hSk W2 (Below.refl _ _)
  obtain ⟨xs, hxs⟩ : ∃ xs, xs = cellsS s.consts := ⟨_, rfl⟩
  rw [← hxs] at hS1
  have HX := hid hxs.symm
  clear hxs
  go_enter Try.func24, Try.ntmps24
  go_upto_region 1 with fail
  rw [← hW2]
  clear hW2
  go_cut [3] (fun c wx => Copied W2 n0 n1 xs ys c wx)
  case first =>
    go_region_held3 (fun W => W.cell? ⟨w.heap.size, 0, none⟩ = some (.slice A0 n0 C0) ∧ W.cell? ⟨w.heap.size, 1, none⟩ = some (.slice A1 n1 C1)) (first | go_keep | exact hSk _ hb5 | exact hSk _ hb4 | exact hSk _ (hb5.alloc hb5.size _) | exact hSk _ (hb4.alloc hb4.size _) | exact hSk _ (hb3.alloc hb3.size _) | exact hSk _ hb3 | exact hSk _ (Below.refl _ _) | exact hSk _ ((hb5.setCell (p := ⟨w4.heap.size, 0, none⟩) hb4.size _).setCell (p := ⟨w4.heap.size, 1, none⟩) hb4.size _) | exact hSk _ ((hb5.setCell (p := ⟨W2.heap.size, 0, none⟩) (Nat.le_refl _) _).setCell (p := ⟨W2.heap.size, 1, none⟩) (Nat.le_refl _) _)) (first | (go_at_call 46; first | (refine (hS1 _ (lift _ hb3)).mono ?_; rintro e w4 ⟨⟨r0, rfl, q0⟩, hb4'⟩; obtain ⟨x0, d0, rfl, _⟩ := row_form q0; have hb4 := hb3.trans (hb4'.mono hb3.size)) | (refine (hS1 _ (lift _ (hb3.alloc hb3.size _))).mono ?_; rintro e w4 ⟨⟨r0, rfl, q0⟩, hb4'⟩; obtain ⟨x0, d0, rfl, _⟩ := row_form q0; have hb4 := (hb3.alloc hb3.size _).trans (hb4'.mono (hb3.alloc hb3.size _).size); have bx4 : w4.heap[W2.heap.size]? = some (.cells #[.slice none 0 0, .slice none 0 0] 25 (0, 0)) := (hb4'.block _ (lt_of_block (heap_alloc_new _ _))).trans (heap_alloc_new W2.drew (.cells #[.slice none 0 0, .slice none 0 0] 25)))) | (go_at_call 47; first | (refine (hS2 _ (lift _ hb4)).mono ?_; rintro e w5 ⟨⟨r1, rfl, q1⟩, hb5'⟩; obtain ⟨x1, d1, rfl, _⟩ := row_form q1; have hb5 := hb4.trans (hb5'.mono hb4.size); first | (have bx5 := (hb5'.block _ (lt_of_block bx4)).trans bx4; obtain ⟨y0, y1, o0, o1⟩ := cells2 bx5) | skip) | (refine (hS2 _ (lift _ (hb4.alloc hb4.size _))).mono ?_; rintro e w5 ⟨⟨r1, rfl, q1⟩, hb5'⟩; obtain ⟨x1, d1, rfl, _⟩ := row_form q1; have hb5 := (hb4.alloc hb4.size _).trans (hb5'.mono (hb4.alloc hb4.size _).size); have bx5 := (hb5'.block _ (lt_of_block (heap_alloc_new _ _))).trans (heap_alloc_new w4 (.cells #[.slice none 0 0, .slice none 0 0] 25)); obtain ⟨y0, y1, o0, o1⟩ := cells2 bx5)))
    all_goals
      go_wp2_with fail
      go_meet
      first | exact copied_new (row_below2 q0 hb5') (row_lower q1 hb4.size) hb5 | exact copied_set (row_below2 (World.ownsRow.alloc q0 _) hb5') (row_lower q1 (hb4.alloc hb4.size _).size) hb5 bx5 hb4.size | exact copied_set (row_lower (row_below2 q0 hb5') (by simp)) (row_lower q1 hb4.size) hb5 bx5 (Nat.le_refl _)
  case rest =>
    obtain ⟨Bc, x0, x1, d0, d1, rfl, bC, hBc, q0, q1, hbc⟩ := hcut
    have hbk := fblk_of_row q1 hF1 HF.out.symm
    obtain ⟨R, hR⟩ : ∃ R : World → Nat → Prop, R = fun W k => s.funcs = [] ∨ ∃ F N, x1 = some ⟨F, 0, none⟩ ∧ W2.heap.size ≤ F ∧ n1 * 4 ≤ N ∧ FBlk W w.cell? F N (F + 1) s.funcs k := ⟨_, rfl⟩
    have hR0 : R wc 0 := by
      rw [hR]
      rcases hbk with ⟨h0, _⟩ | ⟨F, N, c, hv, h1, h2, h3⟩
      · exact .inl h0
      · cases hv
        exact .inr ⟨F, N, rfl, h1, h2, h3 _⟩
    clear hbk
    obtain ⟨cc0, cc1, cf0, cf1⟩ := cells2 bC
    go_wp2_with fail
    go_loopw [16] (fun i wr => ∃ k : Nat, k ≤ n1 ∧ i = .int .i64 k ∧ R wr k ∧ wr.heap[Bc]? = some (.cells #[.slice x0 n0 d0, .slice x1 n1 d1] 25 (0, 0)) ∧ wr.ownsRow W2.heap.size 9 1 (.slice x0 n0 d0) n0 xs ∧ Below W2.heap.size W2 wr) (fun i _ => n1 - (intOf i).toNat)
    case atStart => exact ⟨0, Nat.zero_le _, rfl, hR0, bC, q0, hbc⟩
    case round =>
      obtain ⟨k, hk, rfl, hRk, bCr, qr, hbr⟩ := hrel
      by_cases hlt : k < n1
      · rw [hR] at hRk
        rcases hRk with h0 | ⟨F, N, rfl, hF0, hN, hFB⟩
        · have := HF.out; rw [h0] at this; simp at this; omega
        have kl : k < s.funcs.length := by have := HF.out; omega
        have hFB0 := hFB
        obtain ⟨cs, g1, g2, _, g4⟩ := hFB
        obtain ⟨u0, u1, u2, u3, e0, e1, e2, e3, hI⟩ := g4 k kl (Nat.le_refl _)
        have ff := hff s.funcs[k] (by simp)
        have hbwr := lift _ hbr
        have hset : ∀ (W : World) x0 x1 x2 x3, FBlk W w.cell? F N (F + 1) s.funcs k → FnOwn W (F + 1) s.funcs[k] x0 x1 x2 x3 → FBlk (set4k W F (k * 4) x0 x1 x2 x3) w.cell? F N (F + 1) s.funcs (k + 1) := fun W x0 x1 x2 x3 h1 h2 => h1.set kl (by have := HF.out; omega) (Nat.lt_succ_self _) h2
        generalize s.funcs[k] = f at hI ff hset
        have hCl : ∀ W, Below wr.heap.size wr W → Calls Try.prog 48 #[.agg #[u0, u1, u2, u3]] W (CloneFEnd f W) := fun W hW => cloneFunc_any f _ _ _ _ W (hI.keep fun a v h => below_keep hW _ _ (below_keep hbwr _ _ h)) ff
        obtain ⟨⟨a0, c0, rfl, _⟩, ⟨a1, c1, rfl, _⟩, ⟨a2, c2, rfl, _⟩, ⟨a3, c3, rfl, _⟩⟩ := hI
        generalize f.p.length = m0 at *
        generalize f.r.length = m1 at *
        generalize f.l.length = m2 at *
        generalize f.code.length = m3 at *
        have y0 : wr.cell? ⟨F, k * 4, none⟩ = some (.slice a0 m0 c0) := by rw [Lib.cell_of_heap g1]; exact e0
        have y1 : wr.cell? ⟨F, k * 4 + 1, none⟩ = some (.slice a1 m1 c1) := by rw [Lib.cell_of_heap g1]; exact e1
        have y2 : wr.cell? ⟨F, k * 4 + 2, none⟩ = some (.slice a2 m2 c2) := by rw [Lib.cell_of_heap g1]; exact e2
        have y3 : wr.cell? ⟨F, k * 4 + 3, none⟩ = some (.slice a3 m3 c3) := by rw [Lib.cell_of_heap g1]; exact e3
        have lF := lt_of_block g1
        have lC := lt_of_block bCr
        obtain ⟨W4, hW4⟩ : ∃ W4, W4 = wr.alloc (.cells #[.slice a0 m0 c0, .slice a1 m1 c1, .slice a2 m2 c2, .slice a3 m3 c3] 32) := ⟨_, rfl⟩
        have hb4 : Below wr.heap.size wr W4 := by rw [hW4]; exact (Below.refl _ _).alloc (Nat.le_refl _) _
        have bX : W4.heap[wr.heap.size]? = some (.cells #[.slice a0 m0 c0, .slice a1 m1 c1, .slice a2 m2 c2, .slice a3 m3 c3] 32 (0, 0)) := by rw [hW4]; exact heap_alloc_new wr _
        have lX := lt_of_block bX
        have bC4 := (hb4.block _ lC).trans bCr
        have hSk : ∀ W, Below W4.heap.size W4 W → W.cell? ⟨Bc, 1, none⟩ = some (.slice (some ⟨F, 0, none⟩) n1 d1) ∧ W.cell? ⟨wr.heap.size, 0, none⟩ = some (.slice a0 m0 c0) ∧ W.cell? ⟨wr.heap.size, 1, none⟩ = some (.slice a1 m1 c1) ∧ W.cell? ⟨wr.heap.size, 2, none⟩ = some (.slice a2 m2 c2) ∧ W.cell? ⟨wr.heap.size, 3, none⟩ = some (.slice a3 m3 c3) := fun W hW => by
          have t1 := (hW.block _ (lt_of_block bC4)).trans bC4
          have t2 := (hW.block _ lX).trans bX
          refine ⟨?_, ?_, ?_, ?_, ?_⟩
          all_goals first | (rw [Lib.cell_of_heap t1]; rfl) | (rw [Lib.cell_of_heap t2]; rfl)
        have hb5 : Below W4.heap.size W4 W4.drew := (Below.refl _ _).drew
        have hC5 := hCl W4.drew (hb4.trans (hb5.mono hb4.size))
        obtain ⟨s0, s1, s2, s3, s4⟩ := hSk W4 (Below.refl _ _)
        clear hCl
        go_upto_region 5 with fail
        rw [← hW4]
        clear hW4
        go_region_held3 (fun W => W.cell? ⟨Bc, 1, none⟩ = some (.slice (some ⟨F, 0, none⟩) n1 d1) ∧ W.cell? ⟨wr.heap.size, 0, none⟩ = some (.slice a0 m0 c0) ∧ W.cell? ⟨wr.heap.size, 1, none⟩ = some (.slice a1 m1 c1) ∧ W.cell? ⟨wr.heap.size, 2, none⟩ = some (.slice a2 m2 c2) ∧ W.cell? ⟨wr.heap.size, 3, none⟩ = some (.slice a3 m3 c3)) (first | go_keep | exact hSk _ hb6 | exact hSk _ hb5 | exact hSk _ (Below.refl _ _) | exact hS7 _ _ _ _) (first | (go_at_call 48; refine hC5.mono ?_; rintro e w6 ⟨⟨v0, v1, v2, v3, rfl, hO6⟩, hb6'⟩; clear hC5; have hb6 := hb5.trans (hb6'.mono hb5.size); have hbr6 := hb4.trans (hb6.mono hb4.size); obtain ⟨b0, k0, rfl, _⟩ := row_form hO6.1; obtain ⟨b1, k1, rfl, _⟩ := row_form hO6.2.1; obtain ⟨b2, k2, rfl, _⟩ := row_form hO6.2.2.1; obtain ⟨b3, k3, rfl, _⟩ := row_form hO6.2.2.2; have g6 := (hbr6.block _ lF).trans g1; have h0 : w6.cell? ⟨F, k * 4, none⟩ = some (.slice a0 m0 c0) := (by rw [Lib.cell_of_heap g6]; exact e0); have h1 : w6.cell? ⟨F, k * 4 + 1, none⟩ = some (.slice a1 m1 c1) := (by rw [Lib.cell_of_heap g6]; exact e1); have h2 : w6.cell? ⟨F, k * 4 + 2, none⟩ = some (.slice a2 m2 c2) := (by rw [Lib.cell_of_heap g6]; exact e2); have h3 : w6.cell? ⟨F, k * 4 + 3, none⟩ = some (.slice a3 m3 c3) := (by rw [Lib.cell_of_heap g6]; exact e3); have o0 := Lib.frozen_of_heap g6 (k * 4); have o1 := Lib.frozen_of_heap g6 (k * 4 + 1); have o2 := Lib.frozen_of_heap g6 (k * 4 + 2); have o3 := Lib.frozen_of_heap g6 (k * 4 + 3); have hFne : ¬ Bc = F := (fun e => by subst e; rw [g1] at bCr; cases bCr); have hFne2 : ¬ wr.heap.size = F := (by omega); obtain ⟨z0, z1, z2, z3, z4⟩ := hSk w6 hb6; have hS7 := (fun x0 x1 x2 x3 => And.intro (set4k_cell (o := k * 4) x0 x1 x2 x3 hFne z0) (And.intro (set4k_cell (o := k * 4) x0 x1 x2 x3 hFne2 z1) (And.intro (set4k_cell (o := k * 4) x0 x1 x2 x3 hFne2 z2) (And.intro (set4k_cell (o := k * 4) x0 x1 x2 x3 hFne2 z3) (set4k_cell (o := k * 4) x0 x1 x2 x3 hFne2 z4)))))))
        rw [show (((w6.setCell ⟨F, k * 4, none⟩ (.slice b0 f.p.length k0)).setCell ⟨F, k * 4 + 1, none⟩ (.slice b1 f.r.length k1)).setCell ⟨F, k * 4 + 2, none⟩ (.slice b2 f.l.length k2)).setCell ⟨F, k * 4 + 3, none⟩ (.slice b3 f.code.length k3) = set4k w6 F (k * 4) (.slice b0 f.p.length k0) (.slice b1 f.r.length k1) (.slice b2 f.l.length k2) (.slice b3 f.code.length k3) from rfl]
        have z6 : F + 1 ≤ W4.drew.heap.size := by have : W4.drew.heap.size = W4.heap.size := rfl; omega
        have B6 := hset w6 _ _ _ _ (hFB0.below hbr6) (hO6.lower z6)
        have C6 := (set4k_other (o := k * 4) (.slice b0 f.p.length k0) (.slice b1 f.r.length k1) (.slice b2 f.l.length k2) (.slice b3 f.code.length k3) hFne).trans ((hbr6.block _ lC).trans bCr)
        have Q6 := set4k_row_other (o := k * 4) (.slice b0 f.p.length k0) (.slice b1 f.r.length k1) (.slice b2 f.l.length k2) (.slice b3 f.code.length k3) (row_below2 qr hbr6) g6 (by decide)
        have D6 := set4k_below (o := k * 4) (.slice b0 f.p.length k0) (.slice b1 f.r.length k1) (.slice b2 f.l.length k2) (.slice b3 f.code.length k3) (hbr.trans (hbr6.mono hbr.size)) hF0
        generalize set4k w6 F (k * 4) (.slice b0 f.p.length k0) (.slice b1 f.r.length k1) (.slice b2 f.l.length k2) (.slice b3 f.code.length k3) = W7 at B6 C6 Q6 D6 ⊢
        have hR7 : R W7 (k + 1) := by rw [hR]; exact .inr ⟨F, N, rfl, hF0, hN, B6⟩
        go_wp2_with fail
        exact ⟨⟨k + 1, by omega, by go_num, hR7, C6, Q6, D6⟩, by simp [intOf]; omega⟩
      · obtain rfl : k = n1 := by omega
        rw [hR] at hRk
        obtain ⟨m0, m1, _, _⟩ := cells2 bCr
        have bR := (hbr.block _ (lt_of_block bB)).trans bB
        obtain ⟨i0, i1, i2, i3⟩ := cells2 bR
        have hj := cells2 (set2_1 (u := .slice x1 k d1) (set2_0 (u := .slice x0 n0 d0) bR))
        have Q7 := row_set_other (o := 1) (u := .slice x1 k d1) (row_set_other (o := 0) (u := .slice x0 n0 d0) qr bR (by decide)) (set2_0 (u := .slice x0 n0 d0) bR) (by decide)
        have D7 := ((lift _ hbr).setCell (p := ⟨w.heap.size + 1, 0, none⟩) (Nat.le_succ _) (.slice x0 n0 d0)).setCell (p := ⟨w.heap.size + 1, 1, none⟩) (Nat.le_succ _) (.slice x1 k d1)
        have E7 : ScrOwn ((wr.setCell ⟨w.heap.size + 1, 0, none⟩ (.slice x0 n0 d0)).setCell ⟨w.heap.size + 1, 1, none⟩ (.slice x1 k d1)) w.heap.size s (.slice x0 n0 d0) (.slice x1 k d1) := by
          refine ⟨?_, ⟨x1, d1, by rw [HF.out]⟩, ?_⟩
          · rw [← HC.out]
            rw [HX.out]
            exact row_lower Q7 (by omega)
          · rcases hRk with h0 | ⟨F, N, rfl, hF0, hN, hFB⟩
            · exact .inl h0
            · right
              refine ⟨F, N, d1, by rw [HF.out], by omega, by rw [← HF.out]; exact hN, ?_⟩
              rw [show k = s.funcs.length from HF.out] at hFB
              exact FBlk.done (FBlk.done hFB (by omega) (by omega) (Nat.le_refl _)) (by omega) (by omega) (by omega)
        go_wp2_with fail
        exact bodyPost_ret (results_cell1 rfl _ _ _ _ _ rfl (load_scr hj.1 hj.2.1)) rfl ⟨⟨_, _, rfl, E7⟩, D7⟩
end Go.Proofs.Ytkbmmaacmofijaa
