/- code.Put of any script. What a Reader of package wire does: NewReader, take, Byte, Int, Text, Left, Err and Done. What a Reader's Byte, Int and Text do. A block that holds bytes, whichever. -/
import Derived.Test.YtfnpngbcnmglfaaGreatWI
import Derived.Test.YtfnpngbcnmglfaaGreatCRc
import Derived.Test.YtfnpngbcnmglfaaGreatWF
import Derived.Test.YtfnpngbcnmglfaaGreatWC
namespace Go.Proofs.YtfnpngbcnmglfaaGreat
open Go.RowKit
theorem textW (w0 W : World) (v : Value) (bs : List UInt8) (M : MineW w0 W v bs) (a : Option Addr) (c n : Nat) (ss : List (List UInt8)) (hn : ss.length = n) (hn' : n ≤ 1000) (hN : SsAt w0.cell? a ss) (hall : ∀ x ∈ ss, x.length ≤ 65535) (hroom : bs.length + (texts ss).length ≤ 1048576) : Calls Tryz.prog 50 #[.pointer (some ⟨w0.heap.size + 1, 0, none⟩), .slice a n c] W (WroteW w0 (bs ++ texts ss) (.int .i64 0) W v) := by
  refine (text_ok _ _ _ v bs a n c ss W M.H M.hO M.hz (by omega) hn (by omega) (fun w' hc => hN.keep (below_keep (M.chg hc))) (fun j h => hall _ (by simp)) (by omega)).mono ?_
  rintro e w3 ⟨v3, rfl, H3, hO3, hs3⟩
  exact ⟨v3, rfl, M.step H3 hO3 hs3, hs3⟩
def funcB (f : Fn) : List UInt8 := lens [f.p, f.r, f.l] ++ codeB f.code
/-- The bytes of a script. -/
def scrB (s : Scr) : List UInt8 := [UInt8.ofNat s.consts.length] ++ texts s.consts ++ [UInt8.ofNat s.funcs.length] ++ s.funcs.flatMap funcB
theorem Fn.right_lists {nc nf : Nat} {f : Fn} (h : Fn.right nc nf f = true) : (∀ l ∈ [f.p, f.r, f.l], l.length ≤ 16 ∧ ∀ x ∈ l, 0 ≤ x ∧ x ≤ 255) ∧ f.code.length ≤ 256 := by
  unfold Fn.right Fn.lists at h
  simp only [Bool.and_eq_true, decide_eq_true_eq, List.all_eq_true] at h
  obtain ⟨⟨⟨⟨⟨h0, h1⟩, h2⟩, h3⟩, ⟨h4, h5⟩, h6⟩, _⟩ := h
  have hk : ∀ x, kindOk x = true → 0 ≤ x ∧ x ≤ 255 := fun x h => by
    unfold kindOk at h
    simp only [Bool.and_eq_true, decide_eq_true_eq] at h
    omega
  refine ⟨fun l hl => ?_, h3⟩
  simp only [List.mem_cons, List.not_mem_nil, or_false] at hl
  rcases hl with rfl | rfl | rfl
  · exact ⟨by omega, fun x hx => hk x (h4 x hx)⟩
  · exact ⟨by omega, fun x hx => hk x (h5 x hx)⟩
  · exact ⟨by omega, fun x hx => hk x (h6 x hx)⟩
theorem Fn.right_code {nc nf : Nat} {f : Fn} (hc : nc ≤ 32) (hf : nf ≤ 16) (h : Fn.right nc nf f = true) : ∀ x ∈ f.code, 0 ≤ x.1 ∧ x.1 ≤ 255 ∧ (takesN x.1 = 0 ∨ takesN x.1 = 1 ∨ 0 ≤ x.2 ∧ x.2 ≤ 255) := by
  unfold Fn.right Fn.lists at h
  simp only [Bool.and_eq_true, decide_eq_true_eq, List.all_eq_true] at h
  obtain ⟨⟨⟨⟨⟨h0, h1⟩, h2⟩, h3⟩, _⟩, h7⟩ := h
  intro x hx
  have hi := h7 x hx
  unfold insOk at hi
  simp only [Bool.and_eq_true, decide_eq_true_eq] at hi
  obtain ⟨⟨⟨i0, i1⟩, i2⟩, i3⟩ := hi
  refine ⟨by omega, by omega, ?_⟩
  generalize takesN x.1 = tk at i2 i3
  unfold boundsN at i2 i3
  by_cases e0 : tk = 0
  · exact .inl e0
  by_cases e1 : tk = 1
  · exact .inr (.inl e1)
  right; right
  simp only [e1, if_false] at i2 i3
  by_cases e2 : tk = 2
  · simp only [e2, if_true] at i2 i3; omega
  simp only [e2, if_false] at i2 i3
  by_cases e3 : tk = 3
  · simp only [e3, if_true] at i2 i3; omega
  simp only [e3, if_false] at i2 i3
  by_cases e4 : tk = 4
  · simp only [e4, if_true] at i2 i3; omega
  simp only [e4, if_false] at i2 i3
  by_cases e5 : tk = 5
  · simp only [e5, if_true] at i2 i3; omega
  simp only [e5, if_false] at i2 i3
  omega
theorem lens3 {p r l : List Int} (h0 : p.length ≤ 16) (h1 : r.length ≤ 16) (h2 : l.length ≤ 16) : (lens [p, r, l]).length ≤ 60 := by
  simp only [lens, List.flatMap_cons, List.flatMap_nil, List.length_append, List.length_cons, List.length_nil, byts_length]
  omega
theorem funcB_len {nc nf : Nat} {f : Fn} (h : Fn.right nc nf f = true) : (funcB f).length ≤ 2400 := by
  obtain ⟨h1, h2⟩ := Fn.right_lists h
  have a := lens3 (h1 _ (by simp)).1 (h1 _ (by simp)).1 (h1 _ (by simp)).1 (p := f.p) (r := f.r) (l := f.l)
  have b := insB_flat f.code
  rw [funcB, codeB]
  simp only [List.length_append, byts_length, List.length_cons, List.length_nil]
  omega
theorem flatB {nc nf : Nat} : ∀ (L : List Fn), (∀ f ∈ L, Fn.right nc nf f = true) → (L.flatMap funcB).length ≤ 2400 * L.length
  | [], _ => by simp
  | x :: r, h => by
    have a := flatB r fun f hf => h f (List.mem_cons_of_mem _ hf)
    have b := funcB_len (h x (List.mem_cons_self ..))
    simp only [List.flatMap_cons, List.length_append, List.length_cons]
    omega
/-- How Put ends. -/
def PutEnd4 (s : Scr) (w : World) (e : Ending) (w' : World) : Prop := Below w.heap.size w w' ∧
  ((s.right = false ∧ e = .returned (.tuple #[.slice none 0 0, .int .i64 30])) ∨ (s.right = true ∧ ∃ a, e = .returned (.tuple #[.slice (some a) (scrB s).length (scrB s).length, .int .i64 0]) ∧ Bs w' (some a) (scrB s)))
set_option maxRecDepth 100000 in
set_option maxHeartbeats 1000000 in
theorem put4_any (s : Scr) (V0 V1 : Value) (w : World) (hs : ScIs w.cell? s V0 V1) (hsf : s.fits) : Calls Tryz.prog 27 #[.agg #[V0, V1]] w (PutEnd4 s w) := by
  have hR : ∀ W, (∀ a v, w.cell? a = some v → W.cell? a = some v) → Calls Tryz.prog 39 #[.agg #[V0, V1]] W fun e w' => e = .returned (.bool s.right) ∧ Below W.heap.size W w' := fun W hk => right4_any s V0 V1 W (hs.keep hk) hsf
  obtain ⟨⟨A0, C0, rfl, h0⟩, ⟨A1, C1, rfl, h1⟩⟩ := hs
  obtain ⟨nc, hnc⟩ : ∃ n, n = s.consts.length := ⟨_, rfl⟩
  obtain ⟨nf, hnf⟩ : ∃ n, n = s.funcs.length := ⟨_, rfl⟩
  rw [← hnc] at hR ⊢
  rw [← hnf] at hR ⊢
  have HC := hid hnc
  have HF := hid hnf
  clear hnc hnf
  obtain ⟨W2, hW2⟩ : ∃ W2, W2 = w.alloc (.cells #[.slice A0 nc C0, .slice A1 nf C1] 27) := ⟨_, rfl⟩
  have hb2 : Below w.heap.size w W2 := by rw [hW2]; exact (Below.refl _ w).alloc (Nat.le_refl _) _
  have bA : W2.heap[w.heap.size]? = some (.cells #[.slice A0 nc C0, .slice A1 nf C1] 27 (0, 0)) := by rw [hW2]; exact heap_alloc_new w _
  have hR2 := hR W2 (below_keep hb2)
  clear hR
  cases hr : s.right with
  | false =>
    rw [hr] at hR2
    go_enter Tryz.func27, Tryz.ntmps27
    go_wp2_with fail
    rw [← hW2]
    clear hW2
    refine hR2.mono ?_
    rintro e w1 ⟨rfl, hb1⟩
    go_wp2_with fail
    go_ret2
    exact ⟨hb2.trans (hb1.mono hb2.size), .inl ⟨hr, rfl⟩⟩
  | true =>
    rw [hr] at hR2
    go_enter Tryz.func27, Tryz.ntmps27
    go_wp2_with fail
    rw [← hW2]
    clear hW2
    refine hR2.mono ?_
    rintro e w1 ⟨rfl, hb1⟩
    clear hR2
    have hb01 := hb2.trans (hb1.mono hb2.size)
    have bA1 := (hb1.block _ (Array.getElem?_eq_some_iff.1 bA).1).trans bA
    have lA1 := (Array.getElem?_eq_some_iff.1 bA1).1
    replace h0 := h0.keep (below_keep hb01)
    replace h1 := h1.keep (below_keep hb01)
    have hNew : Calls Tryz.prog 48 #[] w1 fun e w2 => e = .returned (.pointer (some ⟨w1.heap.size + 1, 0, none⟩)) ∧ MineW w1 w2 (.slice none 0 0) [] := (newWriter_any w1).mono (by rintro e w2 ⟨rfl, hw2⟩; exact ⟨rfl, by rw [hw2]; exact ⟨newWriter_wr w1, Own.nil _ _ _, ((Below.refl _ _).alloc (Nat.le_refl _) _).alloc (by simp) _, by simp⟩⟩)
    have hA : ∀ W v bs, MineW w1 W v bs → W.cell? ⟨w.heap.size, 0, none⟩ = some (.slice A0 nc C0) ∧ W.cell? ⟨w.heap.size, 1, none⟩ = some (.slice A1 nf C1) := fun W v bs M => by
      have e := (M.hb.block _ lA1).trans bA1
      exact ⟨by rw [Lib.cell_of_heap e]; rfl, by rw [Lib.cell_of_heap e]; rfl⟩
    have hK : ∀ W v B, Kept w1 W v B (.cells #[.pointer (some ⟨w1.heap.size + 1, 0, none⟩)] 95 (0, 0)) → W.cell? ⟨B, 0, none⟩ = some (.pointer (some ⟨w1.heap.size + 1, 0, none⟩)) := fun W v B K => by rw [Lib.cell_of_heap K.there]; rfl
    have hrt : nc ≤ 32 ∧ nf ≤ 16 ∧ (∀ x ∈ s.consts, x.length ≤ 256) ∧ ∀ f ∈ s.funcs, Fn.right nc nf f = true := by
      have := hr
      unfold Scr.right at this
      rw [← HC.out, ← HF.out] at this
      simp only [Bool.and_eq_true, decide_eq_true_eq, List.all_eq_true] at this
      exact ⟨this.1.1.1.1, this.1.1.2, this.1.2, this.2⟩
    obtain ⟨r0, r1, r2, r3⟩ := hrt
    have htl : (texts s.consts).length ≤ 8256 := by
      have h1 : ∀ (L : List (List UInt8)), (∀ x ∈ L, x.length ≤ 256) → (texts L).length ≤ 258 * L.length := fun L => by
        induction L with
        | nil => intro _; simp [texts]
        | cons x r ih =>
          intro h
          have a := ih fun y hy => h y (List.mem_cons_of_mem _ hy)
          have b := h x (List.mem_cons_self ..)
          unfold texts at a ⊢
          simp only [List.flatMap_cons, List.length_append, List.length_cons, text_length] at a ⊢
          omega
      have := h1 s.consts r2
      rw [← HC.out] at this
      omega
    go_upto_region 4 with (go_at_call 48; refine hNew.mono ?_; rintro e w2 ⟨rfl, M2⟩; clear hNew)
    have M3 := M2.alloc (.cells #[.pointer (some ⟨w1.heap.size + 1, 0, none⟩)] 95)
    have K3 := M2.kept #[.pointer (some ⟨w1.heap.size + 1, 0, none⟩)] 95
    generalize w2.heap.size = B at K3 ⊢
    generalize w2.alloc (.cells #[.pointer (some ⟨w1.heap.size + 1, 0, none⟩)] 95) = W3 at M3 K3 ⊢
    have hB1 := byteW w1 W3 _ _ M3 W3.heap.size nc rfl (by omega) (by simp)
    have hT1 : ∀ W v, MineW w1 W v ([] ++ [UInt8.ofNat nc]) → Calls Tryz.prog 50 #[.pointer (some ⟨w1.heap.size + 1, 0, none⟩), .slice A0 nc C0] W (WroteW w1 ([] ++ [UInt8.ofNat nc] ++ texts s.consts) (.int .i64 0) W v) := fun W v M => textW w1 W v _ M A0 C0 nc s.consts HC.out.symm (by omega) h0 (fun x hx => by have := r2 x hx; omega) (by simp only [List.length_append, List.length_cons, List.length_nil]; omega)
    have hB2 : ∀ W v, MineW w1 W v ([] ++ [UInt8.ofNat nc] ++ texts s.consts) → Calls Tryz.prog 49 #[.pointer (some ⟨w1.heap.size + 1, 0, none⟩), .slice (some ⟨W.heap.size, 0, none⟩) 1 1] (W.alloc (.cells #[.int .i64 (nf : Int)] 3)) (WroteW w1 ([] ++ [UInt8.ofNat nc] ++ texts s.consts ++ [UInt8.ofNat nf]) (.int .i64 0) W v) := fun W v M => byteW w1 W v _ M W.heap.size nf rfl (by omega) (by simp only [List.length_append, List.length_cons, List.length_nil]; omega)
    obtain ⟨p0, p1⟩ := hA _ _ _ M3
    have q0 := hK _ _ _ K3
    go_wp2_with (first | (go_at_call 49; first | (refine hB1.mono ?_; rintro e w4 ⟨v4, rfl, M4, hs4⟩; clear hB1; have K4 := K3.step hs4; obtain ⟨p40, p41⟩ := hA _ _ _ M4; have q4 := hK _ _ _ K4; have hT2 := hT1 w4 v4 M4; clear hT1) | (refine hB3.mono ?_; rintro e w6 ⟨v6, rfl, M6, hs6⟩; clear hB3; have K6 := K5.step hs6; obtain ⟨p60, p61⟩ := hA _ _ _ M6; have q6 := hK _ _ _ K6)) | (go_at_call 50; refine hT2.mono ?_; rintro e w5 ⟨v5, rfl, M5, hs5⟩; clear hT2; have K5 := K4.step hs5; obtain ⟨p50, p51⟩ := hA _ _ _ M5; have q5 := hK _ _ _ K5; have hB3 := hB2 w5 v5 M5; clear hB2))
    have HE : Hid (scrB s = [] ++ [UInt8.ofNat nc] ++ texts s.consts ++ [UInt8.ofNat nf] ++ s.funcs.flatMap funcB) := hid (by rw [scrB, ← HC.out, ← HF.out]; simp only [List.nil_append])
    have hhd : ([] ++ [UInt8.ofNat nc] ++ texts s.consts ++ [UInt8.ofNat nf]).length ≤ 8300 := by simp only [List.length_append, List.length_cons, List.length_nil]; omega
    generalize [] ++ [UInt8.ofNat nc] ++ texts s.consts ++ [UInt8.ofNat nf] = hd at M6 hhd HE
    clear hs4 hs5 hs6 M2 M3 M4 M5 K3 K4 K5 p0 p1 q0 p40 p41 q4 p50 p51 q5 hA htl h0 r2
    go_loopw [34] (fun i wr => ∃ (k : Nat) (vr : Value), k ≤ nf ∧ i = .int .i64 k ∧ MineW w1 wr vr (hd ++ (s.funcs.take k).flatMap funcB) ∧ Kept w1 wr vr B (.cells #[.pointer (some ⟨w1.heap.size + 1, 0, none⟩)] 95 (0, 0))) (fun i _ => nf - (intOf i).toNat)
    case atStart => exact ⟨0, v6, Nat.zero_le _, rfl, by simpa using M6, K6⟩
    case round =>
      obtain ⟨k, vr, hk, rfl, Mr, Kb⟩ := hrel
      have qr := hK _ _ _ Kb
      by_cases hlt : k < nf
      · rcases h1 with hz | ⟨x0, o0, rfl, hc0⟩
        · have := HF.out; rw [hz] at this; simp at this; omega
        have kl : k < s.funcs.length := by have := HF.out; omega
        obtain ⟨v0, v1, v2, v3, y0, y1, y2, y3, hfn⟩ := hc0 k kl
        have fr := r3 s.funcs[k] (by simp)
        have ff := hsf.2.2.1 s.funcs[k] (by simp)
        have hfl := flatB (s.funcs.take k) (fun f hf => r3 f (List.mem_of_mem_take hf))
        rw [List.length_take] at hfl
        have HS : Hid ((s.funcs.take (k + 1)).flatMap funcB = (s.funcs.take k).flatMap funcB ++ funcB s.funcs[k]) := hid (by rw [List.take_add_one, List.getElem?_eq_getElem kl]; show List.flatMap funcB (s.funcs.take k ++ [s.funcs[k]]) = _; rw [List.flatMap_append, List.flatMap_cons, List.flatMap_nil, List.append_nil])
        generalize s.funcs[k] = f at hfn HS fr ff
        generalize (s.funcs.take k).flatMap funcB = xs at Mr HS hfl
        have hkp := below_keep Mr.hb
        replace y0 := hkp _ _ y0
        replace y1 := hkp _ _ y1
        replace y2 := hkp _ _ y2
        replace y3 := hkp _ _ y3
        clear hc0 hkp
        obtain ⟨⟨a0, c0, rfl, F0⟩, ⟨a1, c1, rfl, F1⟩, ⟨a2, c2, rfl, F2⟩, ⟨a3, c3, rfl, F3⟩⟩ := hfn
        have rl := Fn.right_lists fr
        have rc := Fn.right_code r0 r1 fr
        have hll : (lens [f.p, f.r, f.l]).length ≤ 60 := lens3 (rl.1 _ (by simp)).1 (rl.1 _ (by simp)).1 (rl.1 _ (by simp)).1
        have hV : ∀ j (h : j < [f.p, f.r, f.l].length), ∃ a c, (#[Value.slice a0 f.p.length c0, .slice a1 f.r.length c1, .slice a2 f.l.length c2])[j]? = some (.slice a [f.p, f.r, f.l][j].length c) ∧ NsAt w1.cell? a [f.p, f.r, f.l][j] := fun j h => by
          match j, h with
          | 0, _ => exact ⟨a0, c0, rfl, F0⟩
          | 1, _ => exact ⟨a1, c1, rfl, F1⟩
          | 2, _ => exact ⟨a2, c2, rfl, F2⟩
        have HT : Hid (hd ++ (s.funcs.take (k + 1)).flatMap funcB = hd ++ xs ++ lens [f.p, f.r, f.l] ++ codeB f.code) := hid (by rw [HS.out, funcB]; simp only [List.append_assoc])
        have hLs : ∀ W g, MineW w1 W vr (hd ++ xs) → Kept w1 W vr g (.cells #[.slice a0 f.p.length c0, .slice a1 f.r.length c1, .slice a2 f.l.length c2] 28 (0, 0)) → Calls Tryz.prog 51 #[.agg #[.pointer (some ⟨w1.heap.size + 1, 0, none⟩)], .slice (some ⟨g, 0, none⟩) 3 3] W (WroteW w1 (hd ++ xs ++ lens [f.p, f.r, f.l]) (.tuple #[]) W vr) := fun W g M K => wlists_any w1 vr _ W M g 3 [f.p, f.r, f.l] _ rfl (by omega) K hV (fun l hl => ⟨by have := (rl.1 l hl).1; omega, (rl.1 l hl).2⟩) (by simp only [List.length_append]; omega)
        have hCd : ∀ W v, MineW w1 W v (hd ++ xs ++ lens [f.p, f.r, f.l]) → Calls Tryz.prog 52 #[.agg #[.pointer (some ⟨w1.heap.size + 1, 0, none⟩)], .slice a3 f.code.length c3] W (WroteW w1 (hd ++ xs ++ lens [f.p, f.r, f.l] ++ codeB f.code) (.tuple #[]) W v) := fun W v M => wcode_any w1 v _ W M a3 _ c3 f.code rfl F3 rl.2 (by simp only [List.length_append]; omega) rc
        clear HS hV F0 F1 F2 F3 rc fr ff
        generalize lens [f.p, f.r, f.l] = ll at hLs hCd HT hll
        generalize codeB f.code = cc at hCd HT
        clear rl
        generalize f.p.length = n0 at *
        generalize f.r.length = n1 at *
        generalize f.l.length = n2 at *
        generalize f.code.length = n3 at *
        obtain ⟨W4, hW4⟩ : ∃ W4, W4 = wr.alloc (.cells #[.slice a0 n0 c0, .slice a1 n1 c1, .slice a2 n2 c2, .slice a3 n3 c3] 49) := ⟨_, rfl⟩
        have M4 := Mr.alloc (.cells #[.slice a0 n0 c0, .slice a1 n1 c1, .slice a2 n2 c2, .slice a3 n3 c3] 49)
        have Kx := Mr.kept #[.slice a0 n0 c0, .slice a1 n1 c1, .slice a2 n2 c2, .slice a3 n3 c3] 49
        have st := WStep.alloc w1.heap.size wr vr (.cells #[.slice a0 n0 c0, .slice a1 n1 c1, .slice a2 n2 c2, .slice a3 n3 c3] 49)
        rw [← hW4] at M4 Kx st
        have Kb4 := Kb.step st
        have q4 := hK _ _ _ Kb4
        have z0 : W4.cell? ⟨wr.heap.size, 0, none⟩ = some (.slice a0 n0 c0) := by rw [Lib.cell_of_heap Kx.there]; rfl
        have z1 : W4.cell? ⟨wr.heap.size, 1, none⟩ = some (.slice a1 n1 c1) := by rw [Lib.cell_of_heap Kx.there]; rfl
        have z2 : W4.cell? ⟨wr.heap.size, 2, none⟩ = some (.slice a2 n2 c2) := by rw [Lib.cell_of_heap Kx.there]; rfl
        have M5 := M4.alloc (.cells #[.slice a0 n0 c0, .slice a1 n1 c1, .slice a2 n2 c2] 28)
        have K5 := M4.kept #[.slice a0 n0 c0, .slice a1 n1 c1, .slice a2 n2 c2] 28
        have st5 := WStep.alloc w1.heap.size W4 vr (.cells #[.slice a0 n0 c0, .slice a1 n1 c1, .slice a2 n2 c2] 28)
        have hL := hLs _ _ M5 K5
        have Kb5 := Kb4.step st5
        have Kx5 := Kx.step st5
        clear st Kb hLs K5
        go_upto_region 10 with fail
        rw [← hW4]
        clear hW4
        go_wp2_with (first | (go_at_call 51; refine hL.mono ?_; rintro e w6 ⟨v6, rfl, M6, hs6⟩; clear hL; have Kb6 := Kb5.step hs6; have Kx6 := Kx5.step hs6; have q6 := hK _ _ _ Kb6; have z6 : w6.cell? ⟨wr.heap.size, 3, none⟩ = some (.slice a3 n3 c3) := (by rw [Lib.cell_of_heap Kx6.there]; rfl); have hC := hCd w6 v6 M6; clear hCd) | (go_at_call 52; refine hC.mono ?_; rintro e w7 ⟨v7, rfl, M7, hs7⟩; clear hC; have Kb7 := Kb6.step hs7))
        exact ⟨⟨k + 1, v7, by omega, by go_num, by rw [HT.out]; exact M7, Kb7⟩, by simp [intOf]; omega⟩
      · have htk : s.funcs.take k = s.funcs := List.take_of_length_le (by have := HF.out; omega)
        rw [htk, ← HE.out] at Mr
        have hlen : (scrB s).length ≤ 1048576 := by
          have := flatB s.funcs r3
          have hF := HF.out
          rw [HE.out, List.length_append]
          omega
        have fin : ∀ w5 a, Bs w5 (some a) (scrB s) → Below wr.heap.size wr w5 → PutEnd4 s w (.returned (.tuple #[.slice (some a) (scrB s).length (scrB s).length, .int .i64 0])) w5 := fun w5 a h5 hb5 => ⟨hb01.trans ((Mr.hb.trans (hb5.mono Mr.hb.size)).mono hb01.size), .inr ⟨hr, a, rfl, h5⟩⟩
        clear HE htk
        generalize scrB s = E at Mr hlen fin
        go_wp2_with (go_at_call 53; refine (bytes_any _ _ _ vr E wr Mr.H Mr.hO hlen).mono ?_; rintro e w5 ⟨rfl, hO5, hb5⟩)
        obtain ⟨ao, cap, hsl, _, _, hBs, _⟩ := Own.bs hO5
        cases hsl
        go_ret2
        exact fin _ _ hBs hb5
end Go.Proofs.YtfnpngbcnmglfaaGreat
namespace Go.Proofs.YtfnpngbcnmglfaaGreat
open Go.RowKit

/-- A Reader at block p whose held struct is block h: its bytes are the slice v, its error err. -/
structure RdE (w : World) (p h : Nat) (v : Value) (err : Int) : Prop where
  hp : w.heap[p]? = some (.cells #[.pointer (some ⟨h, 0, none⟩)] 152 (0, 0))
  hh : w.heap[h]? = some (.cells #[v, .int .i64 err] 141 (0, 0))
theorem RdE.ne {w : World} {p h : Nat} {v : Value} {err : Int} (H : RdE w p h v err) : p ≠ h := fun e => by
  have h1 := H.hp; have h2 := H.hh; rw [e, h2] at h1; cases h1
theorem RdE.set0 {w : World} {p h : Nat} {v : Value} {err : Int} (H : RdE w p h v err) (u : Value) : RdE (w.setCell ⟨h, 0, none⟩ u) p h u err :=
  ⟨by rw [Below.heap_setCell _ _ _ _ H.ne]; exact H.hp, set2_0 H.hh⟩
theorem RdE.set1 {w : World} {p h : Nat} {v : Value} {err : Int} (H : RdE w p h v err) (e : Int) : RdE (w.setCell ⟨h, 1, none⟩ (.int .i64 e)) p h v e :=
  ⟨by rw [Below.heap_setCell _ _ _ _ H.ne]; exact H.hp, set2_1 H.hh⟩
theorem RdE.chg {w w' : World} {p h : Nat} {v : Value} {err : Int} {S : Nat → Prop} (H : RdE w p h v err) (k : Chg w w' S) (h1 : ¬ S p) (h2 : ¬ S h) : RdE w' p h v err :=
  ⟨by rw [k.block p (lt_of_block H.hp) h1]; exact H.hp, by rw [k.block h (lt_of_block H.hh) h2]; exact H.hh⟩

/-- The bytes bs lie at ao, in block g. -/
def BsAt (w : World) (g : Nat) (ao : Option Addr) (bs : List UInt8) : Prop :=
  bs = [] ∨ ∃ off, ao = some ⟨g, off, none⟩ ∧ ∀ j (h : j < bs.length), w.cell? ⟨g, off + j, none⟩ = some (.int .u8 (bs[j].toNat : Int))
theorem BsAt.bs {w : World} {g : Nat} {ao : Option Addr} {bs : List UInt8} (h : BsAt w g ao bs) : Bs w ao bs := by
  rcases h with h | ⟨off, h, hc⟩
  · exact .inl h
  · exact .inr ⟨g, off, h, hc⟩
theorem BsAt.chg {w w' : World} {g : Nat} {ao : Option Addr} {bs : List UInt8} {S : Nat → Prop} (h : BsAt w g ao bs) (k : Chg w w' S) (hg : ¬ S g) : BsAt w' g ao bs := by
  rcases h with h | ⟨off, h, hc⟩
  · exact .inl h
  · exact .inr ⟨off, h, fun j hj => k.cell (hc j hj) hg⟩
theorem BsAt.from {w : World} {g : Nat} {ao : Option Addr} {bs : List UInt8} (h : BsAt w g ao bs) (k cap : Nat) (hcap : bs.length ≤ cap) : BsAt w g (if cap = k then ao else ao.map (fun a => a.add k)) (bs.drop k) := by
  rcases h with rfl | ⟨off, rfl, hc⟩
  · left; simp
  · split
    · left; exact List.drop_eq_nil_of_le (by omega)
    · refine .inr ⟨off + k, ?_, fun j hj => ?_⟩
      · have hadd : (⟨g, off, none⟩ : Addr).add k = ⟨g, off + k, none⟩ := by unfold Addr.add; split <;> simp_all
        simp [hadd]
      · simp only [List.length_drop] at hj
        have := hc (k + j) (by omega)
        rw [← Nat.add_assoc] at this
        rw [this]
        simp
theorem BsAt.take {w : World} {g : Nat} {ao : Option Addr} {bs : List UInt8} (h : BsAt w g ao bs) (k : Nat) : BsAt w g ao (bs.take k) := by
  rcases h with rfl | ⟨off, rfl, hc⟩
  · left; simp
  · refine .inr ⟨off, rfl, fun j hj => ?_⟩
    simp only [List.length_take] at hj
    rw [hc j (by omega), List.getElem_take]

/-- A Reader that has the bytes bs before it, in block g, and the error err. -/
structure RdS (w : World) (p h g : Nat) (bs : List UInt8) (err : Int) : Prop where
  st : ∃ ao cap, RdE w p h (.slice ao bs.length cap) err ∧ BsAt w g ao bs ∧ bs.length ≤ cap ∧ cap ≤ 140737488355328
  gh : g ≠ h
theorem RdS.chg {w w' : World} {p h g : Nat} {bs : List UInt8} {err : Int} {S : Nat → Prop} (H : RdS w p h g bs err) (k : Chg w w' S) (h1 : ¬ S p) (h2 : ¬ S h) (h3 : ¬ S g) : RdS w' p h g bs err := by
  obtain ⟨⟨ao, cap, hE, hB, hc, hm⟩, hg⟩ := H
  exact ⟨⟨ao, cap, hE.chg k h1 h2, hB.chg k h3, hc, hm⟩, hg⟩

set_option maxHeartbeats 400000 in
theorem rnew_any (ao : Option Addr) (len cap : Nat) (bs : List UInt8) (w : World) (hl : bs.length = len) (hm : len ≤ 140737488355328) (hb : Bs w ao bs) :
    Calls Tryz.prog 55 #[.slice ao len cap] w fun e w' => ∃ h, e = .returned (.pointer (some ⟨h + 1, 0, none⟩)) ∧ w.heap.size < h ∧ RdS w' (h + 1) h w.heap.size bs 0 ∧ Below w.heap.size w w' := by
  go_enter Tryz.func55, Tryz.ntmps55
  go_wp2_with fail
  refine (fresh_any ao len cap bs w hl hm hb).mono ?_
  rintro e w1 ⟨rfl, hO1, hb1⟩
  go_wp2
  go_ret
  have hsz : w.heap.size < w1.heap.size := (hO1.lt _ rfl).2
  have hbz := (hb1.alloc hb1.size (.cells #[.slice (some ⟨w.heap.size, 0, none⟩) len len, .int .i64 0] 141)).alloc (by simp; omega) (.cells #[.pointer (some ⟨w1.heap.size, 0, none⟩)] 152)
  refine ⟨w1.heap.size, rfl, hsz, ⟨⟨some ⟨w.heap.size, 0, none⟩, len, ⟨?_, ?_⟩, ?_, by omega, hm⟩, by omega⟩, hbz⟩
  · have := heap_alloc_new (w1.alloc (.cells #[.slice (some ⟨w.heap.size, 0, none⟩) len len, .int .i64 0] 141)) (.cells #[.pointer (some ⟨w1.heap.size, 0, none⟩)] 152)
    simpa using this
  · rw [Below.heap_alloc _ _ _ (by simp), hl]; exact heap_alloc_new w1 _
  · obtain ⟨ao', cap', hv, _, _, hB, _, _⟩ := Own.bs hO1
    simp only [Value.slice.injEq] at hv
    obtain ⟨rfl, _, _⟩ := hv
    rcases hB with hB | ⟨b, off, hB, hc⟩
    · exact .inl hB
    · cases hB
      exact .inr ⟨0, rfl, fun j hj => alloc_keep _ _ _ _ (alloc_keep _ _ _ _ (hc j hj))⟩

theorem rmade_any (p h : Nat) (v : Value) (err : Int) (w : World) (H : RdE w p h v err) :
    Calls Tryz.prog 153 #[.pointer (some ⟨p, 0, none⟩)] w fun e w' => e = .returned (.bool true) ∧ w' = w := by
  have c0 := cell_of_one H.hp
  go_enter Tryz.func153, Tryz.ntmps153
  go_wp2
  go_ret
  exact ⟨rfl, rfl⟩

set_option maxHeartbeats 400000 in
theorem rfail_any (p h : Nat) (v : Value) (err e0 : Int) (w : World) (H : RdE w p h v err) (h0 : err = 0) :
    Calls Tryz.prog 94 #[.pointer (some ⟨h, 0, none⟩), .int .i64 e0] w fun e w' => e = .returned (.tuple #[]) ∧ w' = w.setCell ⟨h, 1, none⟩ (.int .i64 e0) := by
  obtain ⟨c0, c1, f0, f1⟩ := cells2 H.hh
  subst h0
  go_enter Tryz.func94, Tryz.ntmps94
  go_wp2
  go_end0
  exact ⟨rfl, rfl⟩

set_option maxHeartbeats 400000 in
theorem take_bad (p h : Nat) (ao : Option Addr) (len cap : Nat) (err n : Int) (w : World) (H : RdE w p h (.slice ao len cap) err) (he : err ≠ 0) :
    Calls Tryz.prog 148 #[.pointer (some ⟨p, 0, none⟩), .int .i64 n] w fun e w' => e = .returned (.slice none 0 0) ∧ w' = w := by
  obtain ⟨c0, c1, f0, f1⟩ := cells2 H.hh
  have cp := cell_of_one H.hp
  have hne : (err != 0) = true := by simp [he]
  go_enter Tryz.func148, Tryz.ntmps148
  go_wp2_with (go_at_call 153; refine (rmade_any p h _ err w H).mono ?_; rintro e w' ⟨rfl, hw⟩; subst hw)
  go_ret
  exact ⟨rfl, rfl⟩

set_option maxHeartbeats 400000 in
theorem take_end (p h : Nat) (ao : Option Addr) (len cap : Nat) (n : Int) (w : World) (H : RdE w p h (.slice ao len cap) 0) (hn : (len : Int) < n) :
    Calls Tryz.prog 148 #[.pointer (some ⟨p, 0, none⟩), .int .i64 n] w fun e w' => e = .returned (.slice none 0 0) ∧ w' = w.setCell ⟨h, 1, none⟩ (.int .i64 20) := by
  obtain ⟨c0, c1, f0, f1⟩ := cells2 H.hh
  have cp := cell_of_one H.hp
  go_enter Tryz.func148, Tryz.ntmps148
  go_wp2_with (first | (go_at_call 153; refine (rmade_any p h _ 0 w H).mono ?_; rintro e w' ⟨rfl, hw⟩; subst hw) | (go_at_call 94; refine (rfail_any p h _ 0 20 _ H rfl).mono ?_; rintro e w' ⟨rfl, rfl⟩))
  go_ret
  exact ⟨rfl, rfl⟩

set_option maxHeartbeats 1000000 in
theorem take_ok (p h : Nat) (ao : Option Addr) (len cap n : Nat) (N : Int) (w : World) (hN : N = n) (H : RdE w p h (.slice ao len cap) 0) (hn : n ≤ len) (hc : len ≤ cap) :
    Calls Tryz.prog 148 #[.pointer (some ⟨p, 0, none⟩), .int .i64 N] w fun e w' => e = .returned (.slice ao n cap) ∧ RdE w' p h (.slice (if cap = n then ao else ao.map (fun a => a.add n)) (len - n) (cap - n)) 0 ∧ Chg w w' (fun k => k = h) := by
  subst hN
  obtain ⟨c0, c1, f0, f1⟩ := cells2 H.hh
  have cp := cell_of_one H.hp
  have i1 : (0 : Int) ≤ (n : Int) := by omega
  have i2 : (n : Int) ≤ (cap : Int) := by omega
  have i3 : (n : Int) ≤ (len : Int) := by omega
  go_enter Tryz.func148, Tryz.ntmps148
  have HC : ∀ (u : World) (v : Value), Chg u (u.setCell ⟨h, 0, none⟩ v).drew (fun k => k = h) := fun u v => (Chg.setCell u ⟨h, 0, none⟩ v).trans (Chg.drew _ _) (fun _ _ e => e)
  by_cases hcn : cap = n
  all_goals
    go_wp2_with (go_at_call 153; refine (rmade_any p h _ 0 w H).mono ?_; rintro e w' ⟨rfl, hw⟩; subst hw)
    go_region
    all_goals go_wp2
    all_goals go_ret
  all_goals exact ⟨rfl, ⟨(H.set0 _).hp, (H.set0 _).hh⟩, HC _ _⟩

/-- What take leaves of a Reader. -/
theorem RdS.took {w w' : World} {p h g n : Nat} {bs : List UInt8} {ao : Option Addr} {cap : Nat} (hB : BsAt w g ao bs) (hg : g ≠ h) (hn : n ≤ bs.length) (hc : bs.length ≤ cap) (hm : cap ≤ 140737488355328)
    (H : RdE w' p h (.slice (if cap = n then ao else ao.map (fun a => a.add n)) (bs.length - n) (cap - n)) 0) (k : Chg w w' (fun i => i = h)) : RdS w' p h g (bs.drop n) 0 :=
  ⟨⟨_, cap - n, by rw [List.length_drop]; exact H, (hB.from n cap hc).chg k hg, by rw [List.length_drop]; omega, by omega⟩, hg⟩

set_option maxHeartbeats 400000 in
theorem rleft_any (p h g : Nat) (bs : List UInt8) (err : Int) (w : World) (H : RdS w p h g bs err) :
    Calls Tryz.prog 109 #[.pointer (some ⟨p, 0, none⟩)] w fun e w' => e = .returned (.int .i64 (bs.length : Nat)) ∧ w' = w := by
  obtain ⟨⟨ao, cap, hE, hB, hc, hm⟩, hg⟩ := H
  obtain ⟨c0, c1, f0, f1⟩ := cells2 hE.hh
  have cp := cell_of_one hE.hp
  go_enter Tryz.func109, Tryz.ntmps109
  go_wp2_with (go_at_call 153; refine (rmade_any p h _ err w hE).mono ?_; rintro e w' ⟨rfl, hw⟩; subst hw)
  go_ret
  exact ⟨rfl, rfl⟩
set_option maxHeartbeats 400000 in
theorem rerr_any (p h g : Nat) (bs : List UInt8) (err : Int) (w : World) (H : RdS w p h g bs err) :
    Calls Tryz.prog 108 #[.pointer (some ⟨p, 0, none⟩)] w fun e w' => e = .returned (.int .i64 err) ∧ w' = w := by
  obtain ⟨⟨ao, cap, hE, hB, hc, hm⟩, hg⟩ := H
  obtain ⟨c0, c1, f0, f1⟩ := cells2 hE.hh
  have cp := cell_of_one hE.hp
  go_enter Tryz.func108, Tryz.ntmps108
  go_wp2_with (go_at_call 153; refine (rmade_any p h _ err w hE).mono ?_; rintro e w' ⟨rfl, hw⟩; subst hw)
  go_ret
  exact ⟨rfl, rfl⟩
/-- What Done tells. -/
def doneOf (bs : List UInt8) (err : Int) : Int := if err ≠ 0 then err else if 0 < bs.length then 21 else 0
set_option maxHeartbeats 400000 in
theorem rdone_any (p h g : Nat) (bs : List UInt8) (err : Int) (w : World) (H : RdS w p h g bs err) :
    Calls Tryz.prog 57 #[.pointer (some ⟨p, 0, none⟩)] w fun e w' => e = .returned (.int .i64 (doneOf bs err)) ∧ w' = w := by
  have hmax : bs.length ≤ 140737488355328 := by obtain ⟨⟨ao, cap, hE, hB, hc, hm⟩, hg⟩ := H; omega
  by_cases he : err = 0
  · by_cases hl : 0 < bs.length
    · have HD : Hid (doneOf bs err = 21) := hid (by unfold doneOf; rw [if_neg (by simp [he]), if_pos hl])
      have hb : (err != 0) = false := by simp [he]
      go_enter Tryz.func57, Tryz.ntmps57
      go_wp2_with (first | (go_at_call 108; refine (rerr_any p h g bs err _ H).mono ?_; rintro e w' ⟨rfl, hw⟩; subst hw) | (go_at_call 109; refine (rleft_any p h g bs err _ H).mono ?_; rintro e w' ⟨rfl, hw⟩; subst hw))
      go_ret
      exact ⟨ret_int (by rw [HD.out]), rfl⟩
    · have HD : Hid (doneOf bs err = 0) := hid (by unfold doneOf; rw [if_neg (by simp [he]), if_neg hl])
      have hb : (err != 0) = false := by simp [he]
      go_enter Tryz.func57, Tryz.ntmps57
      go_wp2_with (first | (go_at_call 108; refine (rerr_any p h g bs err _ H).mono ?_; rintro e w' ⟨rfl, hw⟩; subst hw) | (go_at_call 109; refine (rleft_any p h g bs err _ H).mono ?_; rintro e w' ⟨rfl, hw⟩; subst hw))
      go_ret
      exact ⟨ret_int (by rw [HD.out]), rfl⟩
  · have HD : Hid (doneOf bs err = err) := hid (by unfold doneOf; rw [if_pos he])
    have hb : (err != 0) = true := by simp [he]
    go_enter Tryz.func57, Tryz.ntmps57
    go_wp2_with (first | (go_at_call 108; refine (rerr_any p h g bs err _ H).mono ?_; rintro e w' ⟨rfl, hw⟩; subst hw) | (go_at_call 109; refine (rleft_any p h g bs err _ H).mono ?_; rintro e w' ⟨rfl, hw⟩; subst hw))
    go_ret
    exact ⟨ret_int (by rw [HD.out]), rfl⟩
end Go.Proofs.YtfnpngbcnmglfaaGreat
namespace Go.Proofs.YtfnpngbcnmglfaaGreat
open Go.RowKit

/-- A number of 64 bits as an int. -/
def toInt (n : Nat) : Int := if n < 9223372036854775808 then (n : Int) else (n : Int) - 18446744073709551616
theorem wrap_toInt (n : Nat) (h : n < 18446744073709551616) : wrap64 (n : Int) = toInt n := by
  unfold toInt wrap64
  split <;> omega
theorem wrap_none : wrap64 ((num [] : Nat) : Int) = 0 := by rw [wrap_toInt _ (num_lt _)]; rfl
theorem num_one (x : UInt8) : num [x] = x.toNat := by
  simp [num, numStep]
theorem num_two (x y : UInt8) : num [x, y] = x.toNat * 256 + y.toNat := by
  have := x.toNat_lt
  have := y.toNat_lt
  simp [num, numStep]; omega

set_option maxHeartbeats 400000 in
theorem rbyte_bad (p h g : Nat) (bs : List UInt8) (err : Int) (w : World) (H : RdS w p h g bs err) (he : err ≠ 0) :
    Calls Tryz.prog 104 #[.pointer (some ⟨p, 0, none⟩)] w fun e w' => e = .returned (.int .i64 0) ∧ w' = w := by
  obtain ⟨⟨ao, cap, hE, hB, hc, hm⟩, hg⟩ := H
  go_enter Tryz.func104, Tryz.ntmps104
  go_wp2_with (first | (go_at_call 148; refine (take_bad p h ao _ cap err _ _ hE he).mono ?_; rintro e w' ⟨rfl, hw⟩; subst hw) | (go_at_call 147; refine (number_any none 0 0 [] _ rfl (by decide) (.inl rfl)).mono ?_; rintro e w' ⟨rfl, hw⟩; subst hw))
  go_ret
  exact ⟨ret_int wrap_none, rfl⟩
set_option maxHeartbeats 400000 in
theorem rint_bad (p h g : Nat) (bs : List UInt8) (err : Int) (w : World) (H : RdS w p h g bs err) (he : err ≠ 0) :
    Calls Tryz.prog 209 #[.pointer (some ⟨p, 0, none⟩)] w fun e w' => e = .returned (.int .i64 0) ∧ w' = w := by
  obtain ⟨⟨ao, cap, hE, hB, hc, hm⟩, hg⟩ := H
  go_enter Tryz.func209, Tryz.ntmps209
  go_wp2_with (first | (go_at_call 148; refine (take_bad p h ao _ cap err _ _ hE he).mono ?_; rintro e w' ⟨rfl, hw⟩; subst hw) | (go_at_call 147; refine (number_any none 0 0 [] _ rfl (by decide) (.inl rfl)).mono ?_; rintro e w' ⟨rfl, hw⟩; subst hw))
  go_ret
  exact ⟨ret_int wrap_none, rfl⟩

theorem RdS.failed {w : World} {p h g : Nat} {bs : List UInt8} {ao : Option Addr} {cap : Nat} (hE : RdE w p h (.slice ao bs.length cap) 0) (hB : BsAt w g ao bs) (hc : bs.length ≤ cap) (hm : cap ≤ 140737488355328) (hg : g ≠ h) :
    RdS (w.setCell ⟨h, 1, none⟩ (.int .i64 20)) p h g bs 20 ∧ Chg w (w.setCell ⟨h, 1, none⟩ (.int .i64 20)) (fun k => k = h) :=
  ⟨⟨⟨ao, cap, hE.set1 20, hB.chg (Chg.setCell w ⟨h, 1, none⟩ _) hg, hc, hm⟩, hg⟩, Chg.setCell w ⟨h, 1, none⟩ _⟩

set_option maxHeartbeats 400000 in
theorem rbyte_end (p h g : Nat) (bs : List UInt8) (w : World) (H : RdS w p h g bs 0) (hl : bs.length < 1) :
    Calls Tryz.prog 104 #[.pointer (some ⟨p, 0, none⟩)] w fun e w' => e = .returned (.int .i64 0) ∧ RdS w' p h g bs 20 ∧ Chg w w' (fun k => k = h) := by
  obtain ⟨⟨ao, cap, hE, hB, hc, hm⟩, hg⟩ := H
  have HR := RdS.failed hE hB hc hm hg
  go_enter Tryz.func104, Tryz.ntmps104
  go_wp2_with (first | (go_at_call 148; refine (take_end p h ao _ cap _ _ hE (by omega)).mono ?_; rintro e w' ⟨rfl, rfl⟩) | (go_at_call 147; refine (number_any none 0 0 [] _ rfl (by decide) (.inl rfl)).mono ?_; rintro e w' ⟨rfl, rfl⟩))
  go_ret
  exact ⟨ret_int wrap_none, HR⟩
set_option maxHeartbeats 400000 in
theorem rint_end (p h g : Nat) (bs : List UInt8) (w : World) (H : RdS w p h g bs 0) (hl : bs.length < 8) :
    Calls Tryz.prog 209 #[.pointer (some ⟨p, 0, none⟩)] w fun e w' => e = .returned (.int .i64 0) ∧ RdS w' p h g bs 20 ∧ Chg w w' (fun k => k = h) := by
  obtain ⟨⟨ao, cap, hE, hB, hc, hm⟩, hg⟩ := H
  have HR := RdS.failed hE hB hc hm hg
  go_enter Tryz.func209, Tryz.ntmps209
  go_wp2_with (first | (go_at_call 148; refine (take_end p h ao _ cap _ _ hE (by omega)).mono ?_; rintro e w' ⟨rfl, rfl⟩) | (go_at_call 147; refine (number_any none 0 0 [] _ rfl (by decide) (.inl rfl)).mono ?_; rintro e w' ⟨rfl, rfl⟩))
  go_ret
  exact ⟨ret_int wrap_none, HR⟩

set_option maxHeartbeats 400000 in
theorem rbyte_ok (p h g : Nat) (bs : List UInt8) (w : World) (H : RdS w p h g bs 0) (hl : 1 ≤ bs.length) :
    Calls Tryz.prog 104 #[.pointer (some ⟨p, 0, none⟩)] w fun e w' => e = .returned (.int .i64 ((bs[0]'(by omega)).toNat : Nat)) ∧ RdS w' p h g (bs.drop 1) 0 ∧ Chg w w' (fun k => k = h) := by
  obtain ⟨⟨ao, cap, hE, hB, hc, hm⟩, hg⟩ := H
  have e1 : bs.take 1 = [bs[0]'(by omega)] := by rw [List.take_succ_eq_append_getElem (by omega)]; rfl
  have hx := (bs[0]'(by omega)).toNat_lt
  have HN : Hid (wrap64 ((num (bs.take 1) : Nat) : Int) = ((bs[0]'(by omega)).toNat : Nat)) := hid (by rw [wrap_toInt _ (num_lt _), e1, num_one]; unfold toInt; rw [if_pos (by omega)])
  have l1 : (bs.take 1).length = 1 := by simp; omega
  clear e1
  go_enter Tryz.func104, Tryz.ntmps104
  go_wp2_with fail
  refine (take_ok p h ao _ cap 1 _ w rfl hE hl hc).mono ?_
  rintro e w1 ⟨rfl, hE1, hk⟩
  have HR := RdS.took hB hg hl hc hm hE1 hk
  go_wp2_with fail
  refine (number_any ao 1 cap (bs.take 1) w1 l1 (by decide) ((hB.take 1).chg hk hg).bs).mono ?_
  rintro e w2 ⟨rfl, hw⟩
  subst hw
  go_wp2
  go_ret
  exact ⟨ret_int HN.out, HR, hk⟩
set_option maxHeartbeats 400000 in
theorem rint_ok (p h g : Nat) (bs : List UInt8) (w : World) (H : RdS w p h g bs 0) (hl : 8 ≤ bs.length) :
    Calls Tryz.prog 209 #[.pointer (some ⟨p, 0, none⟩)] w fun e w' => e = .returned (.int .i64 (toInt (num (bs.take 8)))) ∧ RdS w' p h g (bs.drop 8) 0 ∧ Chg w w' (fun k => k = h) := by
  obtain ⟨⟨ao, cap, hE, hB, hc, hm⟩, hg⟩ := H
  have HN : Hid (wrap64 ((num (bs.take 8) : Nat) : Int) = toInt (num (bs.take 8))) := hid (wrap_toInt _ (num_lt _))
  have l1 : (bs.take 8).length = 8 := by simp; omega
  go_enter Tryz.func209, Tryz.ntmps209
  go_wp2_with fail
  refine (take_ok p h ao _ cap 8 _ w rfl hE hl hc).mono ?_
  rintro e w1 ⟨rfl, hE1, hk⟩
  have HR := RdS.took hB hg hl hc hm hE1 hk
  go_wp2_with fail
  refine (number_any ao 8 cap (bs.take 8) w1 l1 (by decide) ((hB.take 8).chg hk hg).bs).mono ?_
  rintro e w2 ⟨rfl, hw⟩
  subst hw
  go_wp2
  go_ret
  exact ⟨ret_int HN.out, HR, hk⟩

/-- The length that a text begins with. -/
def tlOf (bs : List UInt8) : Nat := if bs.length < 2 then 0 else num (bs.take 2)
theorem tl_le (bs : List UInt8) : tlOf bs ≤ 65535 := by
  unfold tlOf
  split
  · omega
  · have e : bs.take 2 = [bs[0]'(by omega), bs[1]'(by omega)] := by
      rw [List.take_succ_eq_append_getElem (by omega), List.take_succ_eq_append_getElem (by omega)]; rfl
    rw [e, num_two]
    have := (bs[0]'(by omega)).toNat_lt
    have := (bs[1]'(by omega)).toNat_lt
    omega
set_option maxHeartbeats 400000 in
theorem rtl_any (p h g : Nat) (bs : List UInt8) (err : Int) (w : World) (H : RdS w p h g bs err) :
    Calls Tryz.prog 149 #[.pointer (some ⟨p, 0, none⟩)] w fun e w' => e = .returned (.int .i64 (tlOf bs : Nat)) ∧ w' = w := by
  have H0 := H
  obtain ⟨⟨ao, cap, hE, hB, hc, hm⟩, hg⟩ := H
  obtain ⟨c0, c1, f0, f1⟩ := cells2 hE.hh
  have cp := cell_of_one hE.hp
  by_cases hl : bs.length < 2
  · have HN : Hid (tlOf bs = 0) := hid (by unfold tlOf; rw [if_pos hl])
    go_enter Tryz.func149, Tryz.ntmps149
    go_wp2_with (go_at_call 109; refine (rleft_any p h g bs err _ H0).mono ?_; rintro e w' ⟨rfl, hw⟩; subst hw)
    go_ret
    exact ⟨ret_int (by rw [HN.out]; rfl), rfl⟩
  · have hle := tl_le bs
    have HN : Hid (wrap64 ((num (bs.take 2) : Nat) : Int) = (tlOf bs : Nat)) := hid (by
      have e : tlOf bs = num (bs.take 2) := by unfold tlOf; rw [if_neg hl]
      rw [wrap_toInt _ (num_lt _), ← e]; unfold toInt; rw [if_pos (by omega)])
    have l1 : (bs.take 2).length = 2 := by simp; omega
    go_enter Tryz.func149, Tryz.ntmps149
    go_wp2_with (first | (go_at_call 109; refine (rleft_any p h g bs err _ H0).mono ?_; rintro e w' ⟨rfl, hw⟩; subst hw) | (go_at_call 147; refine (number_any ao 2 cap (bs.take 2) _ l1 (by decide) (hB.take 2).bs).mono ?_; rintro e w' ⟨rfl, hw⟩; subst hw))
    go_ret
    exact ⟨ret_int HN.out, rfl⟩

set_option maxHeartbeats 400000 in
theorem rtext_bad (p h g : Nat) (bs : List UInt8) (err : Int) (w : World) (H : RdS w p h g bs err) (he : err ≠ 0) :
    Calls Tryz.prog 105 #[.pointer (some ⟨p, 0, none⟩)] w fun e w' => e = .returned (.string ⟨#[]⟩) ∧ w' = w := by
  have hle := tl_le bs
  have H0 := H
  obtain ⟨⟨ao, cap, hE, hB, hc, hm⟩, hg⟩ := H
  go_enter Tryz.func105, Tryz.ntmps105
  go_wp2_with (first | (go_at_call 149; refine (rtl_any p h g bs err _ H0).mono ?_; rintro e w' ⟨rfl, hw⟩; subst hw) | (go_at_call 148; refine (take_bad p h ao _ cap err _ _ hE he).mono ?_; rintro e w' ⟨rfl, hw⟩; subst hw))
  go_ret
  exact ⟨rfl, rfl⟩
set_option maxHeartbeats 400000 in
theorem rtext_end (p h g : Nat) (bs : List UInt8) (w : World) (H : RdS w p h g bs 0) (hl : bs.length < 2 + tlOf bs) :
    Calls Tryz.prog 105 #[.pointer (some ⟨p, 0, none⟩)] w fun e w' => e = .returned (.string ⟨#[]⟩) ∧ RdS w' p h g bs 20 ∧ Chg w w' (fun k => k = h) := by
  have hle := tl_le bs
  have H0 := H
  obtain ⟨⟨ao, cap, hE, hB, hc, hm⟩, hg⟩ := H
  have HR := RdS.failed hE hB hc hm hg
  go_enter Tryz.func105, Tryz.ntmps105
  go_wp2_with fail
  refine (rtl_any p h g bs 0 _ H0).mono ?_
  rintro e w1 ⟨rfl, hw⟩
  subst hw
  go_wp2_with fail
  refine (take_end p h ao _ cap _ _ hE (by omega)).mono ?_
  rintro e w2 ⟨rfl, rfl⟩
  go_wp2
  go_ret
  exact ⟨rfl, HR⟩
set_option maxRecDepth 100000 in
set_option maxHeartbeats 1000000 in
theorem rtext_ok (p h g : Nat) (bs : List UInt8) (w : World) (H : RdS w p h g bs 0) (hl : 2 + tlOf bs ≤ bs.length) :
    Calls Tryz.prog 105 #[.pointer (some ⟨p, 0, none⟩)] w fun e w' => e = .returned (.string ⟨((bs.drop 2).take (tlOf bs)).toArray⟩) ∧ RdS w' p h g (bs.drop (2 + tlOf bs)) 0 ∧ Chg w w' (fun k => k = h) := by
  have hle := tl_le bs
  have H0 := H
  obtain ⟨⟨ao, cap, hE, hB, hc, hm⟩, hg⟩ := H
  go_enter Tryz.func105, Tryz.ntmps105
  go_wp2_with fail
  refine (rtl_any p h g bs 0 _ H0).mono ?_
  rintro e w1 ⟨rfl, hw⟩
  subst hw
  go_wp2_with fail
  refine (take_ok p h ao _ cap (2 + tlOf bs) _ _ (by omega) hE hl hc).mono ?_
  rintro e w2 ⟨rfl, hE1, hk⟩
  have HR := RdS.took hB hg hl hc hm hE1 hk
  have hB2 := ((hB.take (2 + tlOf bs)).from 2 cap (by simp; omega)).chg hk hg
  have eq : (bs.take (2 + tlOf bs)).drop 2 = (bs.drop 2).take (tlOf bs) := by rw [List.drop_take]; congr 1; omega
  rw [eq] at hB2
  have ll : ((bs.drop 2).take (tlOf bs)).length = tlOf bs := by simp; omega
  have hbs := hB2.bs
  generalize hs : (bs.drop 2).take (tlOf bs) = s at hbs ll
  have Hs : Hid ((bs.drop 2).take (tlOf bs) = s) := hs
  clear hs eq
  generalize hT : tlOf bs = T at hl hle ll
  have HT : Hid (tlOf bs = T) := hT
  clear hT
  have s1 : cap = 2 → (convert 22 9 (.slice ao T (cap - 2))).run Tryz.prog w2 = .ok (.string ⟨s.toArray⟩) w2 := fun h => by
    rw [if_pos h] at hbs; subst ll; exact run_str hbs _
  have s2 : ¬ cap = 2 → (convert 22 9 (.slice (ao.map (fun a => a.add 2)) T (cap - 2))).run Tryz.prog w2 = .ok (.string ⟨s.toArray⟩) w2 := fun h => by
    rw [if_neg h] at hbs; subst ll; exact run_str hbs _
  by_cases hc2 : cap = 2
  · have s3 := s1 hc2
    obtain rfl : T = 0 := by omega
    rw [hc2] at s3
    simp only [Nat.sub_self] at s3
    clear s1 s2 hbs hB2 hE1
    go_wp2
    go_ret
    exact ⟨by rw [Hs.out]; rfl, HR, hk⟩
  · have s3 := s2 hc2
    rw [show (fun a : Addr => a.add 2) = fun x => ⟨x.block, x.off + 2, none⟩ from funext fun a => by simp [Addr.add]] at s3
    clear s1 s2 hbs hB2 hE1
    go_wp2
    go_ret
    exact ⟨by rw [Hs.out]; rfl, HR, hk⟩
end Go.Proofs.YtfnpngbcnmglfaaGreat
namespace Go.Proofs.YtfnpngbcnmglfaaGreat
open Go.RowKit

theorem Chg.drewN (w : World) (n : Nat) (S : Nat → Prop) : Chg w (w.drewN n) S := ⟨rfl, rfl, rfl, Nat.le_refl _, fun _ _ _ => rfl⟩
/-- Block g begins with len bytes, whichever. -/
def Bytes8 (w : World) (g len : Nat) : Prop := ∃ cur : Array Value, w.heap[g]? = some (.cells cur 5 (0, 0)) ∧ ∀ j, j < len → ∃ y : Nat, y < 256 ∧ cur[j]? = some (.int .u8 (y : Int))
theorem Bytes8.cell {w : World} {g len : Nat} (H : Bytes8 w g len) (j : Nat) (hj : j < len) : ∃ y : Nat, y < 256 ∧ w.cell? ⟨g, j, none⟩ = some (.int .u8 (y : Int)) ∧ w.frozen? ⟨g, j, none⟩ = false := by
  obtain ⟨cur, hc, h⟩ := H
  obtain ⟨y, hy, e⟩ := h j hj
  exact ⟨y, hy, by simp [World.cell?, hc, e], by simp [World.frozen?, hc]⟩
theorem Bytes8.set {w : World} {g len : Nat} (H : Bytes8 w g len) (k y : Nat) (v : Int) (hv : v = (y : Int)) (hy : y < 256) : Bytes8 (w.setCell ⟨g, k, none⟩ (.int .u8 v)) g len := by
  subst hv
  obtain ⟨cur, hc, h⟩ := H
  have hlt := lt_of_block hc
  have h' : w.heap[g] = .cells cur 5 (0, 0) := by simpa [Array.getElem?_eq_getElem hlt] using hc
  refine ⟨cur.setIfInBounds k (.int .u8 (y : Int)), ?_, fun j hj => ?_⟩
  · show (w.heap.modify g _)[g]? = _
    rw [Array.getElem?_eq_getElem (by simpa using hlt), Array.getElem_modify_self, h']
    rfl
  · obtain ⟨z, hz, e⟩ := h j hj
    by_cases hjk : k = j
    · subst hjk
      have : k < cur.size := by
        by_cases hs : k < cur.size
        · exact hs
        · rw [Array.getElem?_eq_none (by omega)] at e; cases e
      exact ⟨y, hy, by rw [Array.getElem?_setIfInBounds_self_of_lt this]⟩
    · exact ⟨z, hz, by rw [Array.getElem?_setIfInBounds_ne hjk]; exact e⟩
theorem Bytes8.chg {w w' : World} {g len : Nat} {S : Nat → Prop} (H : Bytes8 w g len) (c : Chg w w' S) (h : ¬ S g) : Bytes8 w' g len := by
  obtain ⟨cur, hc, hh⟩ := H
  exact ⟨cur, by rw [c.block g (lt_of_block hc) h]; exact hc, hh⟩
theorem Bytes8.of_own {w : World} {base g len c : Nat} {bs : List UInt8} (hl : bs.length = len) (hO : OwnB w base (.slice (some ⟨g, 0, none⟩) (len + 2) c) (bs ++ [77, 78])) : Bytes8 w g len := by
  rcases hO.2 with ⟨h, _⟩ | ⟨g', cap', cur, h, _, hg, _, _, _, ht⟩
  · cases h
  · injection h with h1 h2 h3
    injection h1 with h1
    injection h1 with h1
    subst h1
    refine ⟨cur, hg, fun j hj => ?_⟩
    have hj' : j < (bs ++ [77, 78]).length := by simp; omega
    refine ⟨((bs ++ [77, 78])[j]'hj').toNat, ((bs ++ [77, 78])[j]'hj').toNat_lt, ?_⟩
    have : (cur.toList.take (len + 2))[j]? = some (bv ((bs ++ [77, 78])[j]'hj')) := by
      have h2 : ((bs ++ [77, 78]).map bv)[j]? = some (bv ((bs ++ [77, 78])[j]'hj')) := by rw [List.getElem?_map, List.getElem?_eq_getElem hj']; rfl
      rw [← h2, ← ht]
      congr 1
      simp [hl]
    rw [List.getElem?_take_of_lt (by omega)] at this
    simpa using this
theorem Bytes8.of_bytes {w : World} {base g n c : Nat} {bs : List UInt8} (hl : bs.length = n) (hO : OwnB w base (.slice (some ⟨g, 0, none⟩) n c) bs) : Bytes8 w g n := by
  rcases hO.2 with ⟨h, _⟩ | ⟨g', cap', cur, h, _, hg, _, _, _, ht⟩
  · cases h
  · injection h with h1 h2 h3
    injection h1 with h1
    injection h1 with h1
    subst h1
    refine ⟨cur, hg, fun j hj => ?_⟩
    have hj' : j < bs.length := by omega
    refine ⟨bs[j].toNat, bs[j].toNat_lt, ?_⟩
    have h2 : (bs.map bv)[j]? = some (bv bs[j]) := by rw [List.getElem?_map, List.getElem?_eq_getElem hj']; rfl
    rw [← ht, List.getElem?_take_of_lt (by simp only [List.length_map]; omega)] at h2
    simpa using h2
end Go.Proofs.YtfnpngbcnmglfaaGreat
