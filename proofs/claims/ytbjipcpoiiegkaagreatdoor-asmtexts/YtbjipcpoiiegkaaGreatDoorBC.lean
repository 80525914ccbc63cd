/- asm.Parse of any text. asm.Print. -/
import Derived.Test.YtbjipcpoiiegkaaGreatDoorBB
import Derived.Test.YtbjipcpoiiegkaaGreatDoorAP
namespace Go.Proofs.YtbjipcpoiiegkaaGreatDoor
open Go.RowKit Go.Shelf
/-- How much a script that was read holds at most. -/
structure FitK (k : Nat) (S : Scr) : Prop where
  c : S.consts.length ≤ k
  f : S.funcs.length ≤ k
  i : ∀ f ∈ S.funcs, f.p.length ≤ 64 ∧ f.r.length ≤ 64 ∧ f.l.length ≤ 64 ∧ f.code.length ≤ k
  b : ∀ x ∈ S.consts, x.length ≤ 1048576
theorem fitK_more {k j : Nat} {S : Scr} (h : FitK k S) (hk : k ≤ j) : FitK j S :=
  ⟨Nat.le_trans h.c hk, Nat.le_trans h.f hk, fun f hf => ⟨(h.i f hf).1, (h.i f hf).2.1, (h.i f hf).2.2.1, Nat.le_trans (h.i f hf).2.2.2 hk⟩, h.b⟩
theorem FitK.fits {k : Nat} {S : Scr} (h : FitK k S) (hk : k ≤ 65537) : S.fits := by
  refine ⟨by have := h.c; omega, by have := h.f; omega, fun f hf => ?_, fun x hx => by have := h.b x hx; omega⟩
  obtain ⟨a, b, c, d⟩ := h.i f hf
  exact ⟨by omega, by omega, by omega, by omega⟩
theorem headOf_small {xs : List (List UInt8)} {f : Fn} (h : headOf xs = some f) : f.p.length ≤ 64 ∧ f.r.length ≤ 64 ∧ f.l.length ≤ 64 ∧ f.code = [] := by
  unfold headOf at h
  cases hr : hRun hBeg xs with
  | none => rw [hr] at h; cases h
  | some g =>
    have hg := good_run good_beg hr
    rw [hr] at h
    simp only [Option.bind_some] at h
    split at h
    · cases h
      have h0 := hg.len 0 (by omega)
      have h1 := hg.len 1 (by omega)
      have h2 := hg.len 2 (by omega)
      have hn := hg.n
      simp only [HS.at] at h0 h1 h2
      exact ⟨by simp only; omega, by simp only; omega, by simp only; omega, rfl⟩
    · cases h
theorem fitK_step {k : Nat} {S S' : Scr} {line : List UInt8} (h : FitK k S) (hl : line.length ≤ 1048576) (e : rlStep S line = some S') : FitK (k + 1) S' := by
  unfold rlStep at e
  have hm := fitK_more h (Nat.le_succ k)
  split at e
  · cases ho : headOf (pieces line) with
    | none => rw [ho] at e; cases e
    | some f =>
      rw [ho] at e
      cases e
      obtain ⟨a, b, c, d⟩ := headOf_small ho
      refine ⟨hm.c, by have := h.f; simp; omega, fun g hg => ?_, hm.b⟩
      rcases List.mem_append.1 hg with hg | hg
      · exact hm.i g hg
      · obtain rfl : g = f := by simpa using hg
        exact ⟨a, b, c, by rw [d]; simp⟩
  · split at e
    · rename_i hne
      cases ho : insS line with
      | none => rw [ho] at e; cases e
      | some x =>
        rw [ho] at e
        cases e
        obtain ⟨L, g, hL⟩ := (List.eq_nil_or_concat S.funcs).resolve_left hne
        rw [List.concat_eq_append] at hL
        have ea : addLast S.funcs x = L ++ [g.add x] := by rw [hL]; simp [addLast]
        have hf := h.f
        rw [hL] at hf
        refine ⟨hm.c, ?_, fun f hf => ?_, hm.b⟩
        · simp only [ea]
          simp at hf ⊢
          omega
        · simp only [ea] at hf
          rcases List.mem_append.1 hf with hf | hf
          · exact hm.i f (by rw [hL]; exact List.mem_append_left _ hf)
          · obtain rfl : f = g.add x := by simpa using hf
            have := h.i g (by rw [hL]; simp)
            simp only [Fn.add, List.length_append, List.length_cons, List.length_nil]
            exact ⟨this.1, this.2.1, this.2.2.1, by omega⟩
    · split at e
      · cases ho : oneV (cutAt line 32).2.1 2 with
        | none => rw [ho] at e; cases e
        | some v =>
          rw [ho] at e
          cases e
          have hv : v.b.length ≤ 1048576 := by
            unfold oneV at ho
            split at ho
            · cases hr : readOf (cutAt line 32).2.1 with
              | none => rw [hr] at ho; cases ho
              | some u =>
                rw [hr] at ho
                simp only [Option.bind_some] at ho
                split at ho
                · cases ho
                  exact (readOf_good (by have := (cutAt_len line 32).2; omega) hr).1
                · cases ho
            · cases ho
          refine ⟨by have := h.c; simp; omega, hm.f, hm.i, fun x hx => ?_⟩
          rcases List.mem_append.1 hx with hx | hx
          · exact hm.b x hx
          · obtain rfl : x = v.b := by simpa using hx
            exact hv
      · cases e
theorem noScr_fitK (k : Nat) : FitK k noScr := ⟨Nat.zero_le _, Nat.zero_le _, fun f hf => (by cases hf), fun x hx => (by cases hx)⟩
theorem fitK_run : ∀ (n k : Nat) (S : Scr) (t : List UInt8), FitK k S → k + t.length ≤ 65537 → FitK 65537 (rlRun n k S t).1
  | 0, k, S, t, h, hk => fitK_more h (by omega)
  | n + 1, k, S, t, h, hk => by
    rw [rlRun]
    split
    · exact fitK_more h (by omega)
    · split
      · exact noScr_fitK _
      · rename_i he
        have he' : (cutAt t 10).2.2 = true := by simpa using he
        have hl := cutAt_ended he'
        cases hs : rlStep S (cutAt t 10).1 with
        | none => exact noScr_fitK _
        | some S' => exact fitK_run n (k + 1) S' _ (fitK_step h (by omega) hs) (by omega)
/-- What Parse tells of a text. -/
def linesS (t : List UInt8) : Scr × Int := rlRun t.length 1 noScr t
def parseS (t : List UInt8) : Scr × Int := parseR t (linesS t)
theorem linesS_fit {t : List UInt8} (ht : t.length ≤ 65536) : FitK 65537 (linesS t).1 := fitK_run _ _ _ _ (noScr_fitK 1) (by omega)
theorem parseS_fit (t : List UInt8) : FitK 65537 (parseS t).1 := by
  unfold parseS parseR
  split
  · exact noScr_fitK _
  · rename_i h
    split
    · exact noScr_fitK _
    · exact linesS_fit (by omega)
theorem parse5_any (t : List UInt8) (ht : t.length ≤ 1048576) (w : World) (hM : Marks w) (hL : Laid w) : Calls Tryz.prog 19 #[.string ⟨t.toArray⟩] w (ScrEnd (parseS t) w) := by
  by_cases h : t.length ≤ 65536
  · exact parse5_of t ht (linesS t) ((linesS_fit h).fits (Nat.le_refl _)) w (fun _ W hW => readLines_any t h W (hM.keep hW) (hL.keep hW))
  · have e : parseS t = parseR t (noScr, 0) := by
      unfold parseS parseR
      rw [if_pos (by omega), if_pos (by omega)]
    rw [e]
    exact parse5_of t ht (noScr, 0) ((noScr_fitK 0).fits (by omega)) w (fun q => absurd q h)
def txt5 : List UInt8 := [102, 117, 110, 99, 32, 105, 110, 116, 32, 45, 62, 32, 98, 111, 111, 108, 32, 59, 10, 103, 101, 116, 32, 48, 10, 105, 110, 116, 32, 51, 10, 108, 116, 10]
def scr5 : Scr := ⟨[], [⟨[1], [3], [], [(9, 0), (1, 3), (25, 0)]⟩]⟩
end Go.Proofs.YtbjipcpoiiegkaaGreatDoor
namespace Go.Proofs.YtbjipcpoiiegkaaGreatDoor
open Go.RowKit
theorem bl_new (w : World) : Bl w.heap.size w.heap.size [] (w.alloc (.cells #[.pointer none, .slice none 0 0] 75)) := by
  refine .inl ⟨Nat.le_refl _, .slice none 0 0, heap_alloc_new w _, World.ownsRowF_nil _ _ _ _, ?_⟩
  simp [Value.ownBlock]
theorem string_k (B b : Nat) (l : List UInt8) (w : World) (h : Bl B b l w) (hBw : B ≤ w.heap.size) : Calls Tryz.prog 48 #[.pointer (some ⟨b, 0, none⟩)] w fun e w' => e = .returned (.string ⟨l.toArray⟩) ∧ Below B w w' :=
  (Any.Builder_String_any_f Tryz.lays169 Tryz.Builder_Extra_169 B b l w h hBw).mono fun _ _ h => ⟨h.1, h.2.2⟩
theorem bl_lt {B b : Nat} {l : List UInt8} {w : World} (h : Bl B b l w) : b < w.heap.size := by
  rcases h with ⟨_, v, h, _⟩ | ⟨_, v, h, _⟩ <;> exact lt_of_block h
theorem fn_oth {b fb : Nat} {w w' : World} {v0 v1 v2 v3 : Value} (h : w.heap[fb]? = some (.cells #[v0, v1, v2, v3] 32 (0, 0))) (hne : fb ≠ b) (ho : Oth b w w') : w'.cell? ⟨fb, 3, none⟩ = some v3 := by
  have := ho fb _ h (by simp [hne]) (by intro c fz e; cases e)
  rw [Lib.cell_of_heap this]
  rfl
set_option maxRecDepth 100000 in
set_option maxHeartbeats 4000000 in
theorem print5_any (s : Scr) (V0 V1 : Value) (w : World) (hP : Pow w) (hM : Marks w) (hs : ScIs w.cell? s V0 V1) (hsf : s.fits) : Calls Tryz.prog 21 #[.agg #[V0, V1]] w fun e w' => e = .returned (.string ⟨(printS s).toArray⟩) ∧ Below w.heap.size w w' := by
  obtain ⟨W1, hW1⟩ : ∃ W1, W1 = w.alloc (.cells #[V0, V1] 39) := ⟨_, rfl⟩
  have hb1 : Below w.heap.size w W1 := by rw [hW1]; exact (Below.refl _ w).alloc (Nat.le_refl _) _
  have bA : W1.heap[w.heap.size]? = some (.cells #[V0, V1] 39 (0, 0)) := by rw [hW1]; exact heap_alloc_new w _
  have box : ∀ W, Below W1.heap.size W1 W → W.cell? ⟨w.heap.size, 0, none⟩ = some V0 ∧ W.cell? ⟨w.heap.size, 1, none⟩ = some V1 := fun W hW => by
    obtain ⟨q0, q1, _, _⟩ := cells2 ((hW.block _ (lt_of_block bA)).trans bA)
    exact ⟨q0, q1⟩
  obtain ⟨p0, p1⟩ := box W1 (Below.refl _ _)
  have hR := right4_any s V0 V1 W1 (hs.keep (below_keep hb1)) hsf
  have HS : Hid (s.right = true → Small s) := hid fun h => small_of h
  have HP : Hid (printS s = if s.right = true then printT s else []) := hid rfl
  cases hr : s.right with
  | false =>
    rw [hr] at hR
    have H1 : Hid (printS s = []) := hid (by rw [HP.out, hr]; rfl)
    go_enter Tryz.func21, Tryz.ntmps21
    go_wp2_with fail
    rw [← hW1]
    go_wp2_with (go_at_call 44; refine hR.mono ?_; rintro e w2 ⟨rfl, hb2⟩)
    go_ret
    exact ⟨by rw [H1.out]; rfl, hb1.trans (hb2.mono hb1.size)⟩
  | true =>
    rw [hr] at hR
    have H1 : Hid (printS s = printT s) := hid (by rw [HP.out, hr]; rfl)
    have hSm := HS.out hr
    clear HS HP hr hsf
    obtain ⟨⟨A0, C0, rfl, F0⟩, ⟨A1, C1, rfl, F1⟩⟩ := hs
    have hc32 : s.consts.length ≤ 32 := hSm.c
    have hf16 : s.funcs.length ≤ 16 := hSm.f
    generalize hnc : s.consts.length = nc at hW1 bA box p0 p1 hR hc32 ⊢
    generalize hnf : s.funcs.length = nf at hW1 bA box p0 p1 hR hf16 ⊢
    have HC := hid hnc.symm
    have HF := hid hnf.symm
    clear hnc hnf
    go_enter Tryz.func21, Tryz.ntmps21
    go_wp2_with fail
    rw [← hW1]
    go_wp2_with (first | (go_at_call 44; refine hR.mono ?_; rintro e w2 ⟨rfl, hb2⟩; obtain ⟨q0, q1⟩ := box _ (hb2.alloc hb2.size (.cells #[.pointer none, .slice none 0 0] 75))) | fail)
    obtain ⟨b, hb⟩ : ∃ b, b = w2.heap.size := ⟨_, rfl⟩
    have hBl := bl_new w2
    rw [← hb] at hBl ⊢
    have hb3 : Below b w2 (w2.alloc (.cells #[.pointer none, .slice none 0 0] 75)) := by rw [hb]; exact (Below.refl _ w2).alloc (Nat.le_refl _) _
    generalize w2.alloc (.cells #[.pointer none, .slice none 0 0] 75) = W3 at hBl hb3 q0 q1 ⊢
    have hb12 : Below w.heap.size w w2 := hb1.trans (hb2.mono hb1.size)
    have lift : ∀ W, Below b w2 W → Below w.heap.size w W := fun W h => hb12.trans (h.mono (by rw [hb]; exact hb12.size))
    have hbox : ∀ W, Below b w2 W → W.cell? ⟨w.heap.size, 0, none⟩ = some (.slice A0 nc C0) ∧ W.cell? ⟨w.heap.size, 1, none⟩ = some (.slice A1 nf C1) := fun W h => box W (hb2.trans (h.mono (by rw [hb]; exact hb2.size)))
    have hsz : ∀ W, Below b w2 W → b ≤ W.heap.size := fun W h => by rw [hb]; exact h.size
    clear hW1 box p0 p1 hR bA hb
    go_loopw [16] (fun i wr => ∃ k : Nat, k ≤ nc ∧ i = .int .i64 k ∧ Bl b b ((s.consts.take k).flatMap constT) wr ∧ Below b w2 wr) (fun i _ => nc - (intOf i).toNat)
    case atStart => exact ⟨0, Nat.zero_le _, rfl, hBl, hb3⟩
    case round =>
      obtain ⟨k, hk, rfl, hB, hbr⟩ := hrel
      by_cases hlt : k < nc
      · rcases F0 with h0 | ⟨x0, o0, rfl, hc0⟩
        · have := HC.out; rw [h0] at this; simp at this; omega
        have kl : k < s.consts.length := by have := HC.out; omega
        have c0 := below_keep (lift _ hbr) _ _ (hc0 k kl)
        have HX := hid (flat_snoc constT s.consts k kl)
        have hlen : ((s.consts.take k).flatMap constT).length ≤ 1000000 := by
          have := flat_le (l := s.consts.take k) (g := constT) (M := 600) fun x hx => constT_le (hSm.cs x (List.mem_of_mem_take hx))
          simp only [List.length_take] at this
          omega
        have hcl := hSm.cs s.consts[k] (by simp)
        clear hc0
        generalize s.consts[k] = c at c0 HX hcl
        generalize (s.consts.take k).flatMap constT = acc at hB HX hlen
        obtain ⟨Wa, hWa⟩ : ∃ Wa, Wa = wr.alloc (Val.box ⟨2, 0, c⟩) := ⟨_, rfl⟩
        have hTx : Calls Tryz.prog 47 #[.string ⟨c.toArray⟩] wr fun e w' => e = .returned (.agg #[.int .i64 2, .int .i64 0, .string ⟨c.toArray⟩]) ∧ w' = Wa := by rw [hWa]; exact text_any' c wr
        have hba : Below wr.heap.size wr Wa := by rw [hWa]; exact (Below.refl _ wr).alloc (Nat.le_refl _) _
        clear hWa
        obtain ⟨Wb, hWb⟩ : ∃ Wb, Wb = Wa.alloc (.cells #[.int .i64 2, .int .i64 0, .string ⟨c.toArray⟩] 54) := ⟨_, rfl⟩
        have hbb : Below wr.heap.size wr Wb := by rw [hWb]; exact hba.alloc hba.size _
        have hVb : Vs Wb (some ⟨Wa.heap.size, 0, none⟩) [⟨2, 0, c⟩] := by rw [hWb]; exact vsOne Wa ⟨2, 0, c⟩ _ rfl
        have hPr := print_any (some ⟨Wa.heap.size, 0, none⟩) 1 1 [⟨2, 0, c⟩] rfl Wb ((hP.keep (lift _ hbr)).keep hbb) hVb (fun x hx => by rw [List.mem_singleton] at hx; subst hx; exact ⟨by simp only; omega, by simp, by simp⟩) (by omega) (by show (Lib.join [wordOf ⟨2, 0, c⟩] [32]).length ≤ _; have := hexWord_len c; simp [Lib.join, wordOf]; omega)
        rw [print_text hcl] at hPr
        have HK : Hid (constT c = [99, 111, 110, 115, 116] ++ 32 :: hexWord c ++ [10]) := hid rfl
        have hhl := hexWord_len c
        generalize hexWord c = hx at hPr HK hhl
        clear hVb
        go_wp2_with (first | (go_at_call 47; refine hTx.mono ?_; rintro e w4 ⟨rfl, rfl⟩) | (go_at_call 33; rw [← hWb]; refine hPr.mono ?_; rintro e w5 ⟨rfl, hb5'⟩; have hb5 := hbb.trans (hb5'.mono hbb.size); have hbr5 := hbr.trans (hb5.mono (hsz _ hbr))) | (go_at_call 46; refine (put_two b b acc [99, 111, 110, 115, 116] hx _ (hB.below hb5) (hsz _ hbr5) (by simp) (by omega) hlen).mono ?_; rintro e w6 ⟨rfl, hB6, hb6, _⟩) | fail)
        exact ⟨⟨k + 1, by omega, by go_num, by rw [HX.out, HK.out]; exact hB6, hbr5.trans hb6⟩, by simp [intOf]; omega⟩
      · have htk : s.consts.take k = s.consts := List.take_of_length_le (by have := HC.out; omega)
        rw [htk] at hB
        obtain ⟨q2, q3⟩ := hbox _ hbr
        go_wp2_with fail
        clear q2 q3
        have HE : Hid (printT s = s.consts.flatMap constT ++ s.funcs.flatMap fnT) := hid rfl
        have hal : (s.consts.flatMap constT).length ≤ 19200 := by
          have := flat_le (l := s.consts) (g := constT) (M := 600) fun x hx => constT_le (hSm.cs x hx)
          have := HC.out
          omega
        generalize s.consts.flatMap constT = acc0 at hB HE hal
        go_loopw [30] (fun i w4 => ∃ k : Nat, k ≤ nf ∧ i = .int .i64 k ∧ Bl b b (acc0 ++ (s.funcs.take k).flatMap fnT) w4 ∧ Below b w2 w4) (fun i _ => nf - (intOf i).toNat)
        case atStart => exact ⟨0, Nat.zero_le _, rfl, by simpa using hB, hbr⟩
        case round =>
          obtain ⟨i, hi, rfl, hB4, hb4⟩ := hrel
          by_cases hil : i < nf
          · rcases F1 with h0 | ⟨x0, o0, rfl, hc0⟩
            · have := HF.out; rw [h0] at this; simp at this; omega
            have il : i < s.funcs.length := by have := HF.out; omega
            obtain ⟨v0, v1, v2, v3, k0, k1, k2, k3, hfn⟩ := hc0 i il
            have hkw := below_keep (lift _ hb4)
            replace k0 := hkw _ _ k0
            replace k1 := hkw _ _ k1
            replace k2 := hkw _ _ k2
            replace k3 := hkw _ _ k3
            have HX := hid (flat_snoc fnT s.funcs i il)
            have hsf := hSm.fs s.funcs[i] (by simp)
            have hlen : (acc0 ++ (s.funcs.take i).flatMap fnT).length ≤ 300000 := by
              have := flat_le (l := s.funcs.take i) (g := fnT) (M := 12000) fun x hx => fnT_le (hSm.fs x (List.mem_of_mem_take hx))
              simp only [List.length_take] at this
              simp only [List.length_append]
              omega
            clear hc0 hkw
            generalize s.funcs[i] = f at hfn HX hsf
            have HX' : Hid (acc0 ++ (s.funcs.take (i + 1)).flatMap fnT = acc0 ++ (s.funcs.take i).flatMap fnT ++ fnT f) := hid (by rw [HX.out, List.append_assoc])
            clear HX
            generalize acc0 ++ (s.funcs.take i).flatMap fnT = acc at hB4 HX' hlen
            obtain ⟨Wf, hWf⟩ : ∃ Wf, Wf = wr.alloc (.cells #[v0, v1, v2, v3] 32) := ⟨_, rfl⟩
            have hbf : Below wr.heap.size wr Wf := by rw [hWf]; exact (Below.refl _ wr).alloc (Nat.le_refl _) _
            have bF : Wf.heap[wr.heap.size]? = some (.cells #[v0, v1, v2, v3] 32 (0, 0)) := by rw [hWf]; exact heap_alloc_new wr _
            have hHd := head_any f v0 v1 v2 v3 Wf ((hM.keep (lift _ hb4)).keep hbf) ((hfn.keep (below_keep (lift _ hb4))).keep (below_keep hbf)) ⟨by have := hsf.p; omega, by have := hsf.r; omega, by have := hsf.l; omega⟩
            have hhl := headS_le hsf
            have hne : wr.heap.size ≠ b := by have := bl_lt hB4; omega
            have HT : Hid (fnT f = headS f ++ [10] ++ f.code.flatMap lineT) := hid rfl
            generalize headS f = hd at hHd hhl HT
            obtain ⟨⟨a0, c0, rfl, _⟩, ⟨a1, c1, rfl, _⟩, ⟨a2, c2, rfl, _⟩, ⟨a3, c3, rfl, hI⟩⟩ := hfn
            generalize f.p.length = m0 at k0 hWf bF hHd
            generalize f.r.length = m1 at k1 hWf bF hHd
            generalize f.l.length = m2 at k2 hWf bF hHd
            have hcx := hsf.x
            have hm256 := hsf.c
            generalize hm : f.code.length = m at k3 hWf bF hHd hm256
            have HM := hid hm.symm
            clear hm hsf
            go_wp2_with fail
            rw [← hWf]
            clear hWf
            go_wp2_with (first | (go_at_call 16; refine hHd.mono ?_; rintro e w5 ⟨rfl, hb5'⟩; have hb5 := hbf.trans (hb5'.mono hbf.size); have hbr5 := hb4.trans (hb5.mono (hsz _ hb4)); have b5 := (hb5'.block _ (lt_of_block bF)).trans bF) | (go_at_call 46; refine (put_one b b acc hd _ (hB4.below hb5) (hsz _ hbr5) (by omega) (by omega)).mono ?_; rintro e w6 ⟨rfl, hB6, hb6, ho6⟩; have t3 := fn_oth b5 hne ho6) | fail)
            have hbr6 := hbr5.trans hb6
            have hl2 : (acc ++ (hd ++ [10])).length ≤ 400000 := by simp only [List.length_append, List.length_cons, List.length_nil]; omega
            have HT' : Hid (acc ++ fnT f = acc ++ (hd ++ [10]) ++ f.code.flatMap lineT) := hid (by rw [HT.out]; simp only [List.append_assoc])
            clear HT hHd b5 t3 ho6 hb6 hB4 hb5 hb5' hbf bF k0 k1 k2 k3
            generalize acc ++ (hd ++ [10]) = acc2 at hB6 HT' hl2
            go_loopw [41] (fun i w7 => ∃ j : Nat, j ≤ m ∧ i = .int .i64 j ∧ Bl b b (acc2 ++ (f.code.take j).flatMap lineT) w7 ∧ Below b w2 w7) (fun i _ => m - (intOf i).toNat)
            case atStart => exact ⟨0, Nat.zero_le _, rfl, by simpa using hB6, hbr6⟩
            case round =>
              obtain ⟨j, hj, rfl, hB7, hb7⟩ := hrel
              by_cases hjl : j < m
              · rcases hI with h0 | ⟨x3, o3, rfl, hc3⟩
                · have := HM.out; rw [h0] at this; simp at this; omega
                have jl : j < f.code.length := by have := HM.out; omega
                obtain ⟨k0, k1⟩ := hc3 j jl
                replace k0 := below_keep (lift _ hb7) _ _ k0
                replace k1 := below_keep (lift _ hb7) _ _ k1
                have hxr := hcx f.code[j] (by simp)
                have HY := hid (flat_snoc lineT f.code j jl)
                have hlen3 : (acc2 ++ (f.code.take j).flatMap lineT).length ≤ 500000 := by
                  have := flat_le (l := f.code.take j) (g := lineT) (M := 43) fun x hx => lineT_le (hcx x (List.mem_of_mem_take hx))
                  simp only [List.length_take] at this
                  simp only [List.length_append]
                  omega
                clear hc3
                generalize f.code[j] = x at k0 k1 hxr HY
                obtain ⟨o, a⟩ := x
                simp only at k0 k1 hxr
                have HY' : Hid (acc2 ++ (f.code.take (j + 1)).flatMap lineT = acc2 ++ (f.code.take j).flatMap lineT ++ (lineS (o, a) ++ [10])) := hid (by rw [HY.out, List.append_assoc]; rfl)
                clear HY
                generalize acc2 ++ (f.code.take j).flatMap lineT = acc3 at hB7 HY' hlen3
                obtain ⟨Wi, hWi⟩ : ∃ Wi, Wi = wr.alloc (.cells #[.int .i64 o, .int .i64 a] 23) := ⟨_, rfl⟩
                have hbi : Below wr.heap.size wr Wi := by rw [hWi]; exact (Below.refl _ wr).alloc (Nat.le_refl _) _
                have bI : Wi.heap[wr.heap.size]? = some (.cells #[.int .i64 o, .int .i64 a] 23 (0, 0)) := by rw [hWi]; exact heap_alloc_new wr _
                obtain ⟨i0, i1, _, _⟩ := cells2 bI
                have hLn := line_any o a hxr.1 hxr.2 Wi ((hP.keep (lift _ hb7)).keep hbi)
                have hll := lineS_len (o, a) hxr.1 hxr.2
                generalize lineS (o, a) = ln at hLn hll HY'
                go_wp2_with fail
                rw [← hWi]
                clear hWi
                go_wp2_with (first | (go_at_call 10; refine hLn.mono ?_; rintro e w8 ⟨rfl, hb8'⟩; have hb8 := hbi.trans (hb8'.mono hbi.size); have hbr8 := hb7.trans (hb8.mono (hsz _ hb7))) | (go_at_call 46; refine (put_one b b acc3 ln _ (hB7.below hb8) (hsz _ hbr8) (by omega) (by omega)).mono ?_; rintro e w9 ⟨rfl, hB9, hb9, _⟩) | fail)
                exact ⟨⟨j + 1, by omega, by go_num, by rw [HY'.out]; exact hB9, hbr8.trans hb9⟩, by simp [intOf]; omega⟩
              · have htk : f.code.take j = f.code := List.take_of_length_le (by have := HM.out; omega)
                rw [htk, ← HT'.out, ← HX'.out] at hB7
                go_wp2_with fail
                exact ⟨⟨i + 1, by omega, by go_num, hB7, hb7⟩, by simp [intOf]; omega⟩
          · have htk : s.funcs.take i = s.funcs := List.take_of_length_le (by have := HF.out; omega)
            rw [htk, ← HE.out] at hB4
            have hSt := string_k b b _ _ hB4 (hsz _ hb4)
            generalize printT s = pt at hSt H1
            go_wp2_with (go_at_call 48; refine hSt.mono ?_; rintro e w9 ⟨rfl, hb9⟩)
            go_ret
            exact ⟨by rw [H1.out]; rfl, lift _ (hb4.trans hb9)⟩
end Go.Proofs.YtbjipcpoiiegkaaGreatDoor
