/- code.Put of any script. -/
import Derived.Test.YtkbmmaacmofijaaCPc
import Derived.Test.YtkbmmaacmofijaaCR
namespace Go.Proofs.Ytkbmmaacmofijaa
open Go.RowKit
theorem textW (w0 W : World) (v : Value) (bs : List UInt8) (M : MineW w0 W v bs) (a : Option Addr) (c n : Nat) (ss : List (List UInt8)) (hn : ss.length = n) (hn' : n ≤ 1000) (hN : SsAt w0.cell? a ss) (hall : ∀ x ∈ ss, x.length ≤ 65535) (hroom : bs.length + (texts ss).length ≤ 1048576) : Calls Try.prog 33 #[.pointer (some ⟨w0.heap.size + 1, 0, none⟩), .slice a n c] W (WroteW w0 (bs ++ texts ss) (.int .i64 0) W v) := by
  refine (text_ok _ _ _ v bs a n c ss W M.H M.hO M.hz (by omega) hn (by omega) (fun w' hc => hN.keep (below_keep (M.chg hc))) (fun j h => hall _ (by simp)) (by omega)).mono ?_
  rintro e w3 ⟨v3, rfl, H3, hO3, hs3⟩
  exact ⟨v3, rfl, M.step H3 hO3 hs3, hs3⟩
def funcB (f : Fn) : List UInt8 := lens [f.p, f.r, f.l] ++ codeB f.code
/-- The bytes of a script. -/
def scrB (s : Scr) : List UInt8 := [UInt8.ofNat s.consts.length] ++ texts s.consts ++ [UInt8.ofNat s.funcs.length] ++ s.funcs.flatMap funcB
theorem Fn.right_lists {nc nf : Nat} {f : Fn} (h : Fn.right nc nf f = true) : (∀ l ∈ [f.p, f.r, f.l], l.length ≤ 16 ∧ ∀ x ∈ l, 0 ≤ x ∧ x ≤ 255) ∧ f.code.length ≤ 256 := by
  unfold Fn.right Fn.lists at h
  simp only [Bool.and_eq_true, decide_eq_true_eq, List.all_eq_true] at h
  obtain ⟨⟨⟨⟨⟨h0, h1⟩, h2⟩, h3⟩, ⟨h4, h5⟩, h6⟩, _⟩ := h
  have hk : ∀ x, kindOk x = true → 0 ≤ x ∧ x ≤ 255 := fun x h => by
    unfold kindOk at h
    simp only [Bool.and_eq_true, decide_eq_true_eq] at h
    omega
  refine ⟨fun l hl => ?_, h3⟩
  simp only [List.mem_cons, List.not_mem_nil, or_false] at hl
  rcases hl with rfl | rfl | rfl
  · exact ⟨by omega, fun x hx => hk x (h4 x hx)⟩
  · exact ⟨by omega, fun x hx => hk x (h5 x hx)⟩
  · exact ⟨by omega, fun x hx => hk x (h6 x hx)⟩
theorem Fn.right_code {nc nf : Nat} {f : Fn} (hc : nc ≤ 32) (hf : nf ≤ 16) (h : Fn.right nc nf f = true) : ∀ x ∈ f.code, 0 ≤ x.1 ∧ x.1 ≤ 255 ∧ (takesN x.1 = 0 ∨ takesN x.1 = 1 ∨ 0 ≤ x.2 ∧ x.2 ≤ 255) := by
  unfold Fn.right Fn.lists at h
  simp only [Bool.and_eq_true, decide_eq_true_eq, List.all_eq_true] at h
  obtain ⟨⟨⟨⟨⟨h0, h1⟩, h2⟩, h3⟩, _⟩, h7⟩ := h
  intro x hx
  have hi := h7 x hx
  unfold insOk at hi
  simp only [Bool.and_eq_true, decide_eq_true_eq] at hi
  obtain ⟨⟨⟨i0, i1⟩, i2⟩, i3⟩ := hi
  refine ⟨by omega, by omega, ?_⟩
  generalize takesN x.1 = tk at i2 i3
  unfold boundsN at i2 i3
  by_cases e0 : tk = 0
  · exact .inl e0
  by_cases e1 : tk = 1
  · exact .inr (.inl e1)
  right; right
  simp only [e1, if_false] at i2 i3
  by_cases e2 : tk = 2
  · simp only [e2, if_true] at i2 i3; omega
  simp only [e2, if_false] at i2 i3
  by_cases e3 : tk = 3
  · simp only [e3, if_true] at i2 i3; omega
  simp only [e3, if_false] at i2 i3
  by_cases e4 : tk = 4
  · simp only [e4, if_true] at i2 i3; omega
  simp only [e4, if_false] at i2 i3
  by_cases e5 : tk = 5
  · simp only [e5, if_true] at i2 i3; omega
  simp only [e5, if_false] at i2 i3
  omega
theorem lens3 {p r l : List Int} (h0 : p.length ≤ 16) (h1 : r.length ≤ 16) (h2 : l.length ≤ 16) : (lens [p, r, l]).length ≤ 60 := by
  simp only [lens, List.flatMap_cons, List.flatMap_nil, List.length_append, List.length_cons, List.length_nil, byts_length]
  omega
theorem funcB_len {nc nf : Nat} {f : Fn} (h : Fn.right nc nf f = true) : (funcB f).length ≤ 2400 := by
  obtain ⟨h1, h2⟩ := Fn.right_lists h
  have a := lens3 (h1 _ (by simp)).1 (h1 _ (by simp)).1 (h1 _ (by simp)).1 (p := f.p) (r := f.r) (l := f.l)
  have b := insB_flat f.code
  rw [funcB, codeB]
  simp only [List.length_append, byts_length, List.length_cons, List.length_nil]
  omega
theorem flatB {nc nf : Nat} : ∀ (L : List Fn), (∀ f ∈ L, Fn.right nc nf f = true) → (L.flatMap funcB).length ≤ 2400 * L.length
  | [], _ => by simp
  | x :: r, h => by
    have a := flatB r fun f hf => h f (List.mem_cons_of_mem _ hf)
    have b := funcB_len (h x (List.mem_cons_self ..))
    simp only [List.flatMap_cons, List.length_append, List.length_cons]
    omega
/-- How Put ends. -/
def PutEnd4 (s : Scr) (w : World) (e : Ending) (w' : World) : Prop := Below w.heap.size w w' ∧
  ((s.right = false ∧ e = .returned (.tuple #[.slice none 0 0, .int .i64 30])) ∨ (s.right = true ∧ ∃ a, e = .returned (.tuple #[.slice (some a) (scrB s).length (scrB s).length, .int .i64 0]) ∧ Bs w' (some a) (scrB s)))
set_option maxRecDepth 100000 in
set_option maxHeartbeats 1000000 in
theorem put4_any (s : Scr) (V0 V1 : Value) (w : World) (hs : ScIs w.cell? s V0 V1) (hsf : s.fits) : Calls Try.prog 18 #[.agg #[V0, V1]] w (PutEnd4 s w) := by
  have hR : ∀ W, (∀ a v, w.cell? a = some v → W.cell? a = some v) → Calls Try.prog 13 #[.agg #[V0, V1]] W fun e w' => e = .returned (.bool s.right) ∧ Below W.heap.size W w' := fun W hk => right4_any s V0 V1 W (hs.keep hk) hsf
  obtain ⟨⟨A0, C0, rfl, h0⟩, ⟨A1, C1, rfl, h1⟩⟩ := hs
  obtain ⟨nc, hnc⟩ : ∃ n, n = s.consts.length := ⟨_, rfl⟩
  obtain ⟨nf, hnf⟩ : ∃ n, n = s.funcs.length := ⟨_, rfl⟩
  rw [← hnc] at hR ⊢
  rw [← hnf] at hR ⊢
  have HC := hid hnc
  have HF := hid hnf
  clear hnc hnf
  obtain ⟨W2, hW2⟩ : ∃ W2, W2 = w.alloc (.cells #[.slice A0 nc C0, .slice A1 nf C1] 25) := ⟨_, rfl⟩
  have hb2 : Below w.heap.size w W2 := by rw [hW2]; exact (Below.refl _ w).alloc (Nat.le_refl _) _
  have bA : W2.heap[w.heap.size]? = some (.cells #[.slice A0 nc C0, .slice A1 nf C1] 25 (0, 0)) := by rw [hW2]; exact heap_alloc_new w _
  have hR2 := hR W2 (below_keep hb2)
  clear hR
  cases hr : s.right with
  | false =>
    rw [hr] at hR2
    go_enter Try.func18, Try.ntmps18
    go_wp2_with fail
    rw [← hW2]
    clear hW2
    refine hR2.mono ?_
    rintro e w1 ⟨rfl, hb1⟩
    go_wp2_with fail
    go_ret2
    exact ⟨hb2.trans (hb1.mono hb2.size), .inl ⟨hr, rfl⟩⟩
  | true =>
    rw [hr] at hR2
    go_enter Try.func18, Try.ntmps18
    go_wp2_with fail
    rw [← hW2]
    clear hW2
    refine hR2.mono ?_
    rintro e w1 ⟨rfl, hb1⟩
    clear hR2
    have hb01 := hb2.trans (hb1.mono hb2.size)
    have bA1 := (hb1.block _ (Array.getElem?_eq_some_iff.1 bA).1).trans bA
    have lA1 := (Array.getElem?_eq_some_iff.1 bA1).1
    replace h0 := h0.keep (below_keep hb01)
    replace h1 := h1.keep (below_keep hb01)
    have hNew : Calls Try.prog 31 #[] w1 fun e w2 => e = .returned (.pointer (some ⟨w1.heap.size + 1, 0, none⟩)) ∧ MineW w1 w2 (.slice none 0 0) [] := (newWriter_any w1).mono (by rintro e w2 ⟨rfl, hw2⟩; exact ⟨rfl, by rw [hw2]; exact ⟨newWriter_wr w1, Own.nil _ _ _, ((Below.refl _ _).alloc (Nat.le_refl _) _).alloc (by simp) _, by simp⟩⟩)
    have hA : ∀ W v bs, MineW w1 W v bs → W.cell? ⟨w.heap.size, 0, none⟩ = some (.slice A0 nc C0) ∧ W.cell? ⟨w.heap.size, 1, none⟩ = some (.slice A1 nf C1) := fun W v bs M => by
      have e := (M.hb.block _ lA1).trans bA1
      exact ⟨by rw [Lib.cell_of_heap e]; rfl, by rw [Lib.cell_of_heap e]; rfl⟩
    have hK : ∀ W v B, Kept w1 W v B (.cells #[.pointer (some ⟨w1.heap.size + 1, 0, none⟩)] 60 (0, 0)) → W.cell? ⟨B, 0, none⟩ = some (.pointer (some ⟨w1.heap.size + 1, 0, none⟩)) := fun W v B K => by rw [Lib.cell_of_heap K.there]; rfl
    have hrt : nc ≤ 32 ∧ nf ≤ 16 ∧ (∀ x ∈ s.consts, x.length ≤ 256) ∧ ∀ f ∈ s.funcs, Fn.right nc nf f = true := by
      have := hr
      unfold Scr.right at this
      rw [← HC.out, ← HF.out] at this
      simp only [Bool.and_eq_true, decide_eq_true_eq, List.all_eq_true] at this
      exact ⟨this.1.1.1.1, this.1.1.2, this.1.2, this.2⟩
    obtain ⟨r0, r1, r2, r3⟩ := hrt
    have htl : (texts s.consts).length ≤ 8256 := by
      have h1 : ∀ (L : List (List UInt8)), (∀ x ∈ L, x.length ≤ 256) → (texts L).length ≤ 258 * L.length := fun L => by
        induction L with
        | nil => intro _; simp [texts]
        | cons x r ih =>
          intro h
          have a := ih fun y hy => h y (List.mem_cons_of_mem _ hy)
          have b := h x (List.mem_cons_self ..)
          unfold texts at a ⊢
          simp only [List.flatMap_cons, List.length_append, List.length_cons, text_length] at a ⊢
          omega
      have := h1 s.consts r2
      rw [← HC.out] at this
      omega
    go_upto_region 4 with (go_at_call 31; refine hNew.mono ?_; rintro e w2 ⟨rfl, M2⟩; clear hNew)
    have M3 := M2.alloc (.cells #[.pointer (some ⟨w1.heap.size + 1, 0, none⟩)] 60)
    have K3 := M2.kept #[.pointer (some ⟨w1.heap.size + 1, 0, none⟩)] 60
    generalize w2.heap.size = B at K3 ⊢
    generalize w2.alloc (.cells #[.pointer (some ⟨w1.heap.size + 1, 0, none⟩)] 60) = W3 at M3 K3 ⊢
    have hB1 := byteW w1 W3 _ _ M3 W3.heap.size nc rfl (by omega) (by simp)
    have hT1 : ∀ W v, MineW w1 W v ([] ++ [UInt8.ofNat nc]) → Calls Try.prog 33 #[.pointer (some ⟨w1.heap.size + 1, 0, none⟩), .slice A0 nc C0] W (WroteW w1 ([] ++ [UInt8.ofNat nc] ++ texts s.consts) (.int .i64 0) W v) := fun W v M => textW w1 W v _ M A0 C0 nc s.consts HC.out.symm (by omega) h0 (fun x hx => by have := r2 x hx; omega) (by simp only [List.length_append, List.length_cons, List.length_nil]; omega)
    have hB2 : ∀ W v, MineW w1 W v ([] ++ [UInt8.ofNat nc] ++ texts s.consts) → Calls Try.prog 32 #[.pointer (some ⟨w1.heap.size + 1, 0, none⟩), .slice (some ⟨W.heap.size, 0, none⟩) 1 1] (W.alloc (.cells #[.int .i64 (nf : Int)] 3)) (WroteW w1 ([] ++ [UInt8.ofNat nc] ++ texts s.consts ++ [UInt8.ofNat nf]) (.int .i64 0) W v) := fun W v M => byteW w1 W v _ M W.heap.size nf rfl (by omega) (by simp only [List.length_append, List.length_cons, List.length_nil]; omega)
    obtain ⟨p0, p1⟩ := hA _ _ _ M3
    have q0 := hK _ _ _ K3
    go_wp2_with (first | (go_at_call 32; first | (refine hB1.mono ?_; rintro e w4 ⟨v4, rfl, M4, hs4⟩; clear hB1; have K4 := K3.step hs4; obtain ⟨p40, p41⟩ := hA _ _ _ M4; have q4 := hK _ _ _ K4; have hT2 := hT1 w4 v4 M4; clear hT1) | (refine hB3.mono ?_; rintro e w6 ⟨v6, rfl, M6, hs6⟩; clear hB3; have K6 := K5.step hs6; obtain ⟨p60, p61⟩ := hA _ _ _ M6; have q6 := hK _ _ _ K6)) | (go_at_call 33; refine hT2.mono ?_; rintro e w5 ⟨v5, rfl, M5, hs5⟩; clear hT2; have K5 := K4.step hs5; obtain ⟨p50, p51⟩ := hA _ _ _ M5; have q5 := hK _ _ _ K5; have hB3 := hB2 w5 v5 M5; clear hB2))
    have HE : Hid (scrB s = [] ++ [UInt8.ofNat nc] ++ texts s.consts ++ [UInt8.ofNat nf] ++ s.funcs.flatMap funcB) := hid (by rw [scrB, ← HC.out, ← HF.out]; simp only [List.nil_append])
    have hhd : ([] ++ [UInt8.ofNat nc] ++ texts s.consts ++ [UInt8.ofNat nf]).length ≤ 8300 := by simp only [List.length_append, List.length_cons, List.length_nil]; omega
    generalize [] ++ [UInt8.ofNat nc] ++ texts s.consts ++ [UInt8.ofNat nf] = hd at M6 hhd HE
    clear hs4 hs5 hs6 M2 M3 M4 M5 K3 K4 K5 p0 p1 q0 p40 p41 q4 p50 p51 q5 hA htl h0 r2
    go_loopw [34] (fun i wr => ∃ (k : Nat) (vr : Value), k ≤ nf ∧ i = .int .i64 k ∧ MineW w1 wr vr (hd ++ (s.funcs.take k).flatMap funcB) ∧ Kept w1 wr vr B (.cells #[.pointer (some ⟨w1.heap.size + 1, 0, none⟩)] 60 (0, 0))) (fun i _ => nf - (intOf i).toNat)
    case atStart => exact ⟨0, v6, Nat.zero_le _, rfl, by simpa using M6, K6⟩
    case round =>
      obtain ⟨k, vr, hk, rfl, Mr, Kb⟩ := hrel
      have qr := hK _ _ _ Kb
      by_cases hlt : k < nf
      · rcases h1 with hz | ⟨x0, o0, rfl, hc0⟩
        · have := HF.out; rw [hz] at this; simp at this; omega
        have kl : k < s.funcs.length := by have := HF.out; omega
        obtain ⟨v0, v1, v2, v3, y0, y1, y2, y3, hfn⟩ := hc0 k kl
        have fr := r3 s.funcs[k] (by simp)
        have ff := hsf.2.2.1 s.funcs[k] (by simp)
        have hfl := flatB (s.funcs.take k) (fun f hf => r3 f (List.mem_of_mem_take hf))
        rw [List.length_take] at hfl
        have HS : Hid ((s.funcs.take (k + 1)).flatMap funcB = (s.funcs.take k).flatMap funcB ++ funcB s.funcs[k]) := hid (by rw [List.take_add_one, List.getElem?_eq_getElem kl]; show List.flatMap funcB (s.funcs.take k ++ [s.funcs[k]]) = _; rw [List.flatMap_append, List.flatMap_cons, List.flatMap_nil, List.append_nil])
        generalize s.funcs[k] = f at hfn HS fr ff
        generalize (s.funcs.take k).flatMap funcB = xs at Mr HS hfl
        have hkp := below_keep Mr.hb
        replace y0 := hkp _ _ y0
        replace y1 := hkp _ _ y1
        replace y2 := hkp _ _ y2
        replace y3 := hkp _ _ y3
        clear hc0 hkp
        obtain ⟨⟨a0, c0, rfl, F0⟩, ⟨a1, c1, rfl, F1⟩, ⟨a2, c2, rfl, F2⟩, ⟨a3, c3, rfl, F3⟩⟩ := hfn
        have rl := Fn.right_lists fr
        have rc := Fn.right_code r0 r1 fr
        have hll : (lens [f.p, f.r, f.l]).length ≤ 60 := lens3 (rl.1 _ (by simp)).1 (rl.1 _ (by simp)).1 (rl.1 _ (by simp)).1
        have hV : ∀ j (h : j < [f.p, f.r, f.l].length), ∃ a c, (#[Value.slice a0 f.p.length c0, .slice a1 f.r.length c1, .slice a2 f.l.length c2])[j]? = some (.slice a [f.p, f.r, f.l][j].length c) ∧ NsAt w1.cell? a [f.p, f.r, f.l][j] := fun j h => by
          match j, h with
          | 0, _ => exact ⟨a0, c0, rfl, F0⟩
          | 1, _ => exact ⟨a1, c1, rfl, F1⟩
          | 2, _ => exact ⟨a2, c2, rfl, F2⟩
        have HT : Hid (hd ++ (s.funcs.take (k + 1)).flatMap funcB = hd ++ xs ++ lens [f.p, f.r, f.l] ++ codeB f.code) := hid (by rw [HS.out, funcB]; simp only [List.append_assoc])
        have hLs : ∀ W g, MineW w1 W vr (hd ++ xs) → Kept w1 W vr g (.cells #[.slice a0 f.p.length c0, .slice a1 f.r.length c1, .slice a2 f.l.length c2] 28 (0, 0)) → Calls Try.prog 34 #[.agg #[.pointer (some ⟨w1.heap.size + 1, 0, none⟩)], .slice (some ⟨g, 0, none⟩) 3 3] W (WroteW w1 (hd ++ xs ++ lens [f.p, f.r, f.l]) (.tuple #[]) W vr) := fun W g M K => wlists_any w1 vr _ W M g 3 [f.p, f.r, f.l] _ rfl (by omega) K hV (fun l hl => ⟨by have := (rl.1 l hl).1; omega, (rl.1 l hl).2⟩) (by simp only [List.length_append]; omega)
        have hCd : ∀ W v, MineW w1 W v (hd ++ xs ++ lens [f.p, f.r, f.l]) → Calls Try.prog 35 #[.agg #[.pointer (some ⟨w1.heap.size + 1, 0, none⟩)], .slice a3 f.code.length c3] W (WroteW w1 (hd ++ xs ++ lens [f.p, f.r, f.l] ++ codeB f.code) (.tuple #[]) W v) := fun W v M => wcode_any w1 v _ W M a3 _ c3 f.code rfl F3 rl.2 (by simp only [List.length_append]; omega) rc
        clear HS hV F0 F1 F2 F3 rc fr ff
        generalize lens [f.p, f.r, f.l] = ll at hLs hCd HT hll
        generalize codeB f.code = cc at hCd HT
        clear rl
        generalize f.p.length = n0 at *
        generalize f.r.length = n1 at *
        generalize f.l.length = n2 at *
        generalize f.code.length = n3 at *
        obtain ⟨W4, hW4⟩ : ∃ W4, W4 = wr.alloc (.cells #[.slice a0 n0 c0, .slice a1 n1 c1, .slice a2 n2 c2, .slice a3 n3 c3] 32) := ⟨_, rfl⟩
        have M4 := Mr.alloc (.cells #[.slice a0 n0 c0, .slice a1 n1 c1, .slice a2 n2 c2, .slice a3 n3 c3] 32)
        have Kx := Mr.kept #[.slice a0 n0 c0, .slice a1 n1 c1, .slice a2 n2 c2, .slice a3 n3 c3] 32
        have st := WStep.alloc w1.heap.size wr vr (.cells #[.slice a0 n0 c0, .slice a1 n1 c1, .slice a2 n2 c2, .slice a3 n3 c3] 32)
        rw [← hW4] at M4 Kx st
        have Kb4 := Kb.step st
        have q4 := hK _ _ _ Kb4
        have z0 : W4.cell? ⟨wr.heap.size, 0, none⟩ = some (.slice a0 n0 c0) := by rw [Lib.cell_of_heap Kx.there]; rfl
        have z1 : W4.cell? ⟨wr.heap.size, 1, none⟩ = some (.slice a1 n1 c1) := by rw [Lib.cell_of_heap Kx.there]; rfl
        have z2 : W4.cell? ⟨wr.heap.size, 2, none⟩ = some (.slice a2 n2 c2) := by rw [Lib.cell_of_heap Kx.there]; rfl
        have M5 := M4.alloc (.cells #[.slice a0 n0 c0, .slice a1 n1 c1, .slice a2 n2 c2] 28)
        have K5 := M4.kept #[.slice a0 n0 c0, .slice a1 n1 c1, .slice a2 n2 c2] 28
        have st5 := WStep.alloc w1.heap.size W4 vr (.cells #[.slice a0 n0 c0, .slice a1 n1 c1, .slice a2 n2 c2] 28)
        have hL := hLs _ _ M5 K5
        have Kb5 := Kb4.step st5
        have Kx5 := Kx.step st5
        clear st Kb hLs K5
        go_upto_region 10 with fail
        rw [← hW4]
        clear hW4
        go_wp2_with (first | (go_at_call 34; refine hL.mono ?_; rintro e w6 ⟨v6, rfl, M6, hs6⟩; clear hL; have Kb6 := Kb5.step hs6; have Kx6 := Kx5.step hs6; have q6 := hK _ _ _ Kb6; have z6 : w6.cell? ⟨wr.heap.size, 3, none⟩ = some (.slice a3 n3 c3) := (by rw [Lib.cell_of_heap Kx6.there]; rfl); have hC := hCd w6 v6 M6; clear hCd) | (go_at_call 35; refine hC.mono ?_; rintro e w7 ⟨v7, rfl, M7, hs7⟩; clear hC; have Kb7 := Kb6.step hs7))
        exact ⟨⟨k + 1, v7, by omega, by go_num, by rw [HT.out]; exact M7, Kb7⟩, by simp [intOf]; omega⟩
      · have htk : s.funcs.take k = s.funcs := List.take_of_length_le (by have := HF.out; omega)
        rw [htk, ← HE.out] at Mr
        have hlen : (scrB s).length ≤ 1048576 := by
          have := flatB s.funcs r3
          have hF := HF.out
          rw [HE.out, List.length_append]
          omega
        have fin : ∀ w5 a, Bs w5 (some a) (scrB s) → Below wr.heap.size wr w5 → PutEnd4 s w (.returned (.tuple #[.slice (some a) (scrB s).length (scrB s).length, .int .i64 0])) w5 := fun w5 a h5 hb5 => ⟨hb01.trans ((Mr.hb.trans (hb5.mono Mr.hb.size)).mono hb01.size), .inr ⟨hr, a, rfl, h5⟩⟩
        clear HE htk
        generalize scrB s = E at Mr hlen fin
        go_wp2_with (go_at_call 36; refine (bytes_any _ _ _ vr E wr Mr.H Mr.hO hlen).mono ?_; rintro e w5 ⟨rfl, hO5, hb5⟩)
        obtain ⟨ao, cap, hsl, _, _, hBs, _⟩ := Own.bs hO5
        cases hsl
        go_ret2
        exact fin _ _ hBs hb5
end Go.Proofs.Ytkbmmaacmofijaa
