/- asm.Parse of any text. The document's Hex. Which values may be, case by case. -/
import Derived.Test.YtbjipcpoiiegkaaGreatDoorBB
import Derived.Test.YtbjipcpoiiegkaaGreatDoorVTd
import Derived.Deep.RegionWith
import Derived.Test.YtbjipcpoiiegkaaGreatDoorVA
namespace Go.Proofs.YtbjipcpoiiegkaaGreatDoor
open Go.RowKit Go.Shelf
/-- How much a script that was read holds at most. -/
structure FitK (k : Nat) (S : Scr) : Prop where
  c : S.consts.length ≤ k
  f : S.funcs.length ≤ k
  i : ∀ f ∈ S.funcs, f.p.length ≤ 64 ∧ f.r.length ≤ 64 ∧ f.l.length ≤ 64 ∧ f.code.length ≤ k
  b : ∀ x ∈ S.consts, x.length ≤ 1048576
theorem fitK_more {k j : Nat} {S : Scr} (h : FitK k S) (hk : k ≤ j) : FitK j S :=
  ⟨Nat.le_trans h.c hk, Nat.le_trans h.f hk, fun f hf => ⟨(h.i f hf).1, (h.i f hf).2.1, (h.i f hf).2.2.1, Nat.le_trans (h.i f hf).2.2.2 hk⟩, h.b⟩
theorem FitK.fits {k : Nat} {S : Scr} (h : FitK k S) (hk : k ≤ 65537) : S.fits := by
  refine ⟨by have := h.c; omega, by have := h.f; omega, fun f hf => ?_, fun x hx => by have := h.b x hx; omega⟩
  obtain ⟨a, b, c, d⟩ := h.i f hf
  exact ⟨by omega, by omega, by omega, by omega⟩
theorem headOf_small {xs : List (List UInt8)} {f : Fn} (h : headOf xs = some f) : f.p.length ≤ 64 ∧ f.r.length ≤ 64 ∧ f.l.length ≤ 64 ∧ f.code = [] := by
  unfold headOf at h
  cases hr : hRun hBeg xs with
  | none => rw [hr] at h; cases h
  | some g =>
    have hg := good_run good_beg hr
    rw [hr] at h
    simp only [Option.bind_some] at h
    split at h
    · cases h
      have h0 := hg.len 0 (by omega)
      have h1 := hg.len 1 (by omega)
      have h2 := hg.len 2 (by omega)
      have hn := hg.n
      simp only [HS.at] at h0 h1 h2
      exact ⟨by simp only; omega, by simp only; omega, by simp only; omega, rfl⟩
    · cases h
theorem fitK_step {k : Nat} {S S' : Scr} {line : List UInt8} (h : FitK k S) (hl : line.length ≤ 1048576) (e : rlStep S line = some S') : FitK (k + 1) S' := by
  unfold rlStep at e
  have hm := fitK_more h (Nat.le_succ k)
  split at e
  · cases ho : headOf (pieces line) with
    | none => rw [ho] at e; cases e
    | some f =>
      rw [ho] at e
      cases e
      obtain ⟨a, b, c, d⟩ := headOf_small ho
      refine ⟨hm.c, by have := h.f; simp; omega, fun g hg => ?_, hm.b⟩
      rcases List.mem_append.1 hg with hg | hg
      · exact hm.i g hg
      · obtain rfl : g = f := by simpa using hg
        exact ⟨a, b, c, by rw [d]; simp⟩
  · split at e
    · rename_i hne
      cases ho : insS line with
      | none => rw [ho] at e; cases e
      | some x =>
        rw [ho] at e
        cases e
        obtain ⟨L, g, hL⟩ := (List.eq_nil_or_concat S.funcs).resolve_left hne
        rw [List.concat_eq_append] at hL
        have ea : addLast S.funcs x = L ++ [g.add x] := by rw [hL]; simp [addLast]
        have hf := h.f
        rw [hL] at hf
        refine ⟨hm.c, ?_, fun f hf => ?_, hm.b⟩
        · simp only [ea]
          simp at hf ⊢
          omega
        · simp only [ea] at hf
          rcases List.mem_append.1 hf with hf | hf
          · exact hm.i f (by rw [hL]; exact List.mem_append_left _ hf)
          · obtain rfl : f = g.add x := by simpa using hf
            have := h.i g (by rw [hL]; simp)
            simp only [Fn.add, List.length_append, List.length_cons, List.length_nil]
            exact ⟨this.1, this.2.1, this.2.2.1, by omega⟩
    · split at e
      · cases ho : oneV (cutAt line 32).2.1 2 with
        | none => rw [ho] at e; cases e
        | some v =>
          rw [ho] at e
          cases e
          have hv : v.b.length ≤ 1048576 := by
            unfold oneV at ho
            split at ho
            · cases hr : readOf (cutAt line 32).2.1 with
              | none => rw [hr] at ho; cases ho
              | some u =>
                rw [hr] at ho
                simp only [Option.bind_some] at ho
                split at ho
                · cases ho
                  exact (readOf_good (by have := (cutAt_len line 32).2; omega) hr).1
                · cases ho
            · cases ho
          refine ⟨by have := h.c; simp; omega, hm.f, hm.i, fun x hx => ?_⟩
          rcases List.mem_append.1 hx with hx | hx
          · exact hm.b x hx
          · obtain rfl : x = v.b := by simpa using hx
            exact hv
      · cases e
theorem noScr_fitK (k : Nat) : FitK k noScr := ⟨Nat.zero_le _, Nat.zero_le _, fun f hf => (by cases hf), fun x hx => (by cases hx)⟩
theorem fitK_run : ∀ (n k : Nat) (S : Scr) (t : List UInt8), FitK k S → k + t.length ≤ 65537 → FitK 65537 (rlRun n k S t).1
  | 0, k, S, t, h, hk => fitK_more h (by omega)
  | n + 1, k, S, t, h, hk => by
    rw [rlRun]
    split
    · exact fitK_more h (by omega)
    · split
      · exact noScr_fitK _
      · rename_i he
        have he' : (cutAt t 10).2.2 = true := by simpa using he
        have hl := cutAt_ended he'
        cases hs : rlStep S (cutAt t 10).1 with
        | none => exact noScr_fitK _
        | some S' => exact fitK_run n (k + 1) S' _ (fitK_step h (by omega) hs) (by omega)
/-- What Parse tells of a text. -/
def linesS (t : List UInt8) : Scr × Int := rlRun t.length 1 noScr t
def parseS (t : List UInt8) : Scr × Int := parseR t (linesS t)
theorem linesS_fit {t : List UInt8} (ht : t.length ≤ 65536) : FitK 65537 (linesS t).1 := fitK_run _ _ _ _ (noScr_fitK 1) (by omega)
theorem parseS_fit (t : List UInt8) : FitK 65537 (parseS t).1 := by
  unfold parseS parseR
  split
  · exact noScr_fitK _
  · rename_i h
    split
    · exact noScr_fitK _
    · exact linesS_fit (by omega)
theorem parse5_any (t : List UInt8) (ht : t.length ≤ 1048576) (w : World) (hM : Marks w) (hL : Laid w) : Calls Tryz.prog 19 #[.string ⟨t.toArray⟩] w (ScrEnd (parseS t) w) := by
  by_cases h : t.length ≤ 65536
  · exact parse5_of t ht (linesS t) ((linesS_fit h).fits (Nat.le_refl _)) w (fun _ W hW => readLines_any t h W (hM.keep hW) (hL.keep hW))
  · have e : parseS t = parseR t (noScr, 0) := by
      unfold parseS parseR
      rw [if_pos (by omega), if_pos (by omega)]
    rw [e]
    exact parse5_of t ht (noScr, 0) ((noScr_fitK 0).fits (by omega)) w (fun q => absurd q h)
def txt5 : List UInt8 := [102, 117, 110, 99, 32, 105, 110, 116, 32, 45, 62, 32, 98, 111, 111, 108, 32, 59, 10, 103, 101, 116, 32, 48, 10, 105, 110, 116, 32, 51, 10, 108, 116, 10]
def scr5 : Scr := ⟨[], [⟨[1], [3], [], [(9, 0), (1, 3), (25, 0)]⟩]⟩
end Go.Proofs.YtbjipcpoiiegkaaGreatDoor
namespace Go.Proofs.YtbjipcpoiiegkaaGreatDoor
open Go.RowKit
def hexD : List UInt8 := [48, 49, 50, 51, 52, 53, 54, 55, 56, 57, 97, 98, 99, 100, 101, 102]
def hex2 (c : UInt8) : List UInt8 := [hexD.getD (c.toNat / 16) 0, hexD.getD (c.toNat % 16) 0]
theorem src_newB {P : Program} {tx e' : TypeId} (hk : P.underlying tx = some (.slice e')) (B : Nat) (x y : Value) (t : TypeId) (W : World) (hb : W.heap[B]? = some (.cells #[x] t (0, 0))) (h : x = y) (h1 : y.oneCell' = true) (c : Nat) : Src P 1 tx (.slice (some ⟨B, 0, none⟩) 1 c) [y].length [y] W := by
  subst h
  exact Src.ofSlice _ hk _ 1 c [x] rfl (World.news_of_block hb) (by intro u hu; simp at hu; subst hu; exact h1)
theorem src_new2 {P : Program} {tx e' : TypeId} (hk : P.underlying tx = some (.slice e')) (B : Nat) (x y x' y' : Value) (t : TypeId) (W : World) (hb : W.heap[B]? = some (.cells #[x, y] t (0, 0))) (h : x = x') (h' : y = y') (h1 : x'.oneCell' = true) (h2 : y'.oneCell' = true) (c : Nat) : Src P 1 tx (.slice (some ⟨B, 0, none⟩) 2 c) [x', y'].length [x', y'] W := by
  subst h h'
  exact Src.ofSlice _ hk _ 2 c [x, y] rfl (World.news_of_block hb) (by intro u hu; simp at hu; rcases hu with rfl | rfl <;> assumption)
set_option maxRecDepth 100000 in
set_option maxHeartbeats 1000000 in
theorem rhex_any (s : List UInt8) (w : World) (hs : s.length ≤ 1048576) : Calls Tryz.prog 69 #[.string ⟨s.toArray⟩] w fun e w' => e = .returned (.string ⟨(s.flatMap hex2).toArray⟩) ∧ Below w.heap.size w w' := by
  go_enter Tryz.func69, Tryz.ntmps69
  go_wp2
  go_loopw [4, 5] (fun v i wr => ∃ (k : Nat) (v' : Value), k ≤ s.length ∧ i = .int .i64 k ∧ v = v' ∧ OwnB wr w.heap.size v' ((s.take k).flatMap hex2) ∧ Below w.heap.size w wr) (fun _ i _ => s.length - (intOf i).toNat)
  case atStart => exact ⟨0, _, Nat.zero_le _, rfl, rfl, by simp only [List.take_zero, List.flatMap_nil]; exact Own.nil _ _ _, Below.refl _ _⟩
  case round =>
    obtain ⟨k, v', hk, rfl, rfl, hO, hb⟩ := hrel
    by_cases hlt : k < s.length
    · have HE : Hid ((s.take (k + 1)).flatMap hex2 = (s.take k).flatMap hex2 ++ hex2 s[k]) := hidV (by rw [List.take_succ_eq_append_getElem hlt, List.flatMap_append, List.flatMap_cons, List.flatMap_nil, List.append_nil])
      have hyl : ((s.take k).flatMap hex2).length ≤ 2097152 := by
        have : ∀ l : List UInt8, (l.flatMap hex2).length = 2 * l.length := fun l => by
          induction l with
          | nil => rfl
          | cons a l ih => rw [List.flatMap_cons, List.length_append, ih]; simp [hex2]; omega
        rw [this, List.length_take]
        omega
      generalize (s.take k).flatMap hex2 = ys at *
      have e0 : (⟨s.toArray⟩ : ByteArray)[k]'(by show k < s.toArray.size; simpa using hlt) = s[k] := by simp [ByteArray.getElem_eq_getElem_data]
      generalize s[k] = c at e0 HE
      have hc := c.toNat_lt
      obtain ⟨m1, hm1⟩ : ∃ m1, m1 = c.toNat / 16 := ⟨_, rfl⟩
      obtain ⟨m2, hm2⟩ : ∃ m2, m2 = c.toNat % 16 := ⟨_, rfl⟩
      have hd1 : m1 < 16 := by omega
      have hd2 : m2 < 16 := by omega
      have hi1 : (m1 : Int) < 16 := by omega
      have hi2 : (m2 : Int) < 16 := by omega
      have hw1 : IntKind.u8.wrap ((c.toNat : Int) / 16) = (m1 : Int) := by rw [IntKind.wrap_u8']; omega
      have hw2 : (c.toNat : Int).tmod 16 = (m2 : Int) := by rw [Int.tmod_eq_emod_of_nonneg (by omega)]; omega
      have e1 := digit_at2 m1 hd1
      have e2 := digit_at2 m2 hd2
      generalize hg1 : ([(48 : UInt8), 49, 50, 51, 52, 53, 54, 55, 56, 57, 97, 98, 99, 100, 101, 102].getD m1 0) = x1 at e1
      generalize hg2 : ([(48 : UInt8), 49, 50, 51, 52, 53, 54, 55, 56, 57, 97, 98, 99, 100, 101, 102].getD m2 0) = x2 at e2
      have HX : Hid (hex2 c = [x1, x2]) := hidV (by rw [← hg1, ← hg2, hm1, hm2]; rfl)
      clear hg1 hg2 hm1 hm2
      go_wp2
      go_region_law ((refine step_app _ (by rfl) _ _ _ _ (by rfl) elem_u8 w.heap.size u4 _ (by rfl) (by exact (Own.alloc hO _)) _ (by rfl) [bv x1, bv x2] (src_new2 Tryz.underlying73 wr.heap.size _ _ _ _ _ _ (by exact heap_alloc_new wr _) rfl rfl rfl rfl _) (by simp only [List.length_map, List.length_cons, List.length_nil]; unfold maxLen; omega) (by simp only [List.length_map, List.length_cons, List.length_nil]; omega) (by have := hb.size; simp; omega) ?_; intro v2 w2 hO2 hs2))
      all_goals
        replace hO2 : OwnB w2 w.heap.size v2 ((s.take (k + 1)).flatMap hex2) := by
          rw [HE.out, HX.out]
          simpa [OwnB] using hO2
        have hb2 : Below w.heap.size w w2 := ((hb.alloc hb.size _).drew).trans (hs2.below (Nat.le_trans hb.size (by simp)) (fun k h => (hO.lt k h).1))
        clear hs2 hO hb e0 HE HX
        go_wp2
        go_roundw
        case rel => exact ⟨k + 1, _, by omega, by go_num, rfl, hO2, hb2⟩
        case measure => simp [intOf]; omega
    · have hke : s.take k = s := List.take_of_length_le (by omega)
      rw [hke] at hO
      obtain ⟨hx, hhx⟩ : ∃ hx, hx = s.flatMap hex2 := ⟨_, rfl⟩
      rw [← hhx] at hO
      have HH : Hid (s.flatMap hex2 = hx) := hidV hhx.symm
      clear hhx
      obtain ⟨ao, cap, rfl, _, _, hB, _⟩ := Own.bs hO
      have hst := run_str hB cap
      go_wp2
      go_ret
      exact ⟨by rw [HH.out]; rfl, hb⟩
end Go.Proofs.YtbjipcpoiiegkaaGreatDoor
namespace Go.Proofs.YtbjipcpoiiegkaaGreatDoor
theorem right_ways {x : Val} (h : x.right = true) : (x.t = 1 ∧ x.b = []) ∨ (x.t = 2 ∧ x.n = 0 ∧ x.b.length ≤ 256) ∨ (x.t = 3 ∧ (x.n = 0 ∨ x.n = 1) ∧ x.b = []) := by
  unfold Val.right at h
  by_cases h1 : x.t = 1
  · rw [if_pos h1] at h
    exact .inl ⟨h1, by simpa using h⟩
  · rw [if_neg h1] at h
    by_cases h2 : x.t = 2
    · rw [if_pos h2] at h
      exact .inr (.inl ⟨h2, by simpa using h⟩)
    · rw [if_neg h2] at h
      by_cases h3 : x.t = 3
      · rw [if_pos h3] at h
        exact .inr (.inr ⟨h3, by simpa using h⟩)
      · rw [if_neg h3] at h
        cases h
end Go.Proofs.YtbjipcpoiiegkaaGreatDoor
