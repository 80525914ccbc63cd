/- shape.Match. -/
import Derived.Test.YtodagpmcmjleaaaGreatSH
namespace Go.Proofs.YtodagpmcmjleaaaGreat
open Go.RowKit
/-- The blocks and the notes ahead of place k. -/
def mst (cs : List (Int × Int)) : Nat → List Blk × List Int
  | 0 => ([], List.replicate cs.length (-1))
  | k + 1 => (stepS ((opsI cs).getD k 0) k (mst cs k).1, visS ((opsI cs).getD k 0) k (mst cs k).1 (mst cs k).2)
def okv (n : Nat) (x : Int) : Prop := 0 ≤ x ∧ x < n
theorem set_ok {n i j : Nat} {ms : List Int} {v : Int} (h : okv n (ms.getD j 0)) (hv : okv n v) : okv n ((ms.set i v).getD j 0) := by
  rw [List.getD_eq_getElem?_getD, List.getElem?_set]
  split
  · split
    · exact hv
    · rw [List.getD_eq_getElem?_getD, List.getElem?_eq_none (by omega)] at h
      exact h
  · rw [← List.getD_eq_getElem?_getD]; exact h
theorem set_ok' {n j : Nat} {ms : List Int} {v : Int} (hj : j < ms.length) (hv : okv n v) : okv n ((ms.set j v).getD j 0) := by
  rw [List.getD_eq_getElem?_getD, List.getElem?_set_self hj]
  exact hv
theorem oOf_lt {n : Nat} {x : Int} (h : x = -1 ∨ 0 ≤ x ∧ x < n) : ∀ o, oOf x = some o → o < n := by
  intro o ho
  unfold oOf at ho
  split at ho
  · cases ho
  · cases ho; omega
theorem visS_ok {n k j : Nat} {nn : Int} {L : List Blk} {ms : List Int} (hk : k < n) (hL : ∀ b ∈ L, b.ok n) (h : okv n (ms.getD j 0)) : okv n ((visS nn k L ms).getD j 0) := by
  have hkv : okv n (k : Int) := ⟨by omega, by omega⟩
  unfold visS
  split
  · split
    · exact h
    · rename_i b hb
      obtain ⟨s1, s2, s3⟩ := hL b (List.mem_of_getLast? hb)
      have hsv : okv n ((b.s.toNat : Nat) : Int) := ⟨by omega, by omega⟩
      cases ho : oOf b.o with
      | none => exact set_ok (set_ok h hkv) hsv
      | some o =>
        have := oOf_lt s3 o ho
        exact set_ok (set_ok (set_ok (set_ok h hkv) hsv) ⟨by omega, by omega⟩) hkv
  · split
    · split
      · exact h
      · rename_i i hi
        obtain ⟨_, b, hb, _⟩ := firstIx_lt hi
        obtain ⟨s1, s2, _⟩ := hL b (List.mem_of_getElem? hb)
        rw [hb]
        exact set_ok h ⟨s1, s2⟩
    · exact h
theorem step_ok {n k : Nat} {nn : Int} {L : List Blk} (hk : k < n) (hL : ∀ b ∈ L, b.ok n) : ∀ b ∈ stepS nn k L, b.ok n := by
  intro b hb
  unfold stepS at hb
  split at hb
  · rcases List.mem_append.1 hb with h | h
    · exact hL b h
    · simp at h
      subst h
      exact ⟨by simp, by simp; omega, .inl rfl⟩
  · split at hb
    · split at hb
      · exact hL b hb
      · rename_i b' hb'
        rcases List.mem_append.1 hb with h | h
        · exact hL b ((List.dropLast_sublist _).subset h)
        · simp at h
          subst h
          obtain ⟨s1, s2, _⟩ := hL b' (List.mem_of_getLast? hb')
          exact ⟨s1, s2, .inr ⟨by simp, by simp; omega⟩⟩
    · split at hb
      · exact hL b ((List.dropLast_sublist _).subset hb)
      · exact hL b hb
theorem run_prev {cs : List (Int × Int)} {k : Nat} {L' : List Blk} (hk : k < cs.length) (h : runS (opsI (cs.take (k + 1))) 0 [] = some L') : ∃ L, runS (opsI (cs.take k)) 0 [] = some L ∧ standS cs[k].1 L = true ∧ L' = stepS cs[k].1 k L := by
  cases hr : runS (opsI (cs.take k)) 0 [] with
  | none =>
    rw [List.take_succ_eq_append_getElem hk, opsI, List.map_append, runS_append, show List.map Prod.fst (cs.take k) = opsI (cs.take k) from rfl, hr] at h
    cases h
  | some L =>
    refine ⟨L, rfl, ?_⟩
    cases hs : standS cs[k].1 L with
    | true =>
      have := run_next hk hr hs
      rw [h] at this
      exact ⟨rfl, Option.some.inj this⟩
    | false =>
      rw [List.take_succ_eq_append_getElem hk, opsI, List.map_append, runS_append, show List.map Prod.fst (cs.take k) = opsI (cs.take k) from rfl, hr] at h
      simp [runS, hs] at h
theorem ops_at {cs : List (Int × Int)} {k : Nat} (hk : k < cs.length) : (opsI cs).getD k 0 = cs[k].1 := by
  rw [List.getD_eq_getElem?_getD, opsI, List.getElem?_map, List.getElem?_eq_getElem hk]; rfl
theorem mst_len (cs : List (Int × Int)) : ∀ k, (mst cs k).2.length = cs.length
  | 0 => by simp [mst]
  | k + 1 => by simp only [mst]; rw [visS_len]; exact mst_len cs k
theorem mst_inv (cs : List (Int × Int)) : ∀ k L, k ≤ cs.length → runS (opsI (cs.take k)) 0 [] = some L → (mst cs k).1 = L ∧ (∀ b ∈ L, b.ok cs.length) ∧ ∀ j (_ : j < k) (h2 : j < cs.length), cs[j].1 = 52 → okv cs.length ((mst cs k).2.getD j 0)
  | 0, L, _, h => by
    simp [opsI, runS] at h
    subst h
    exact ⟨rfl, fun b hb => (by cases hb), fun j h => (by omega)⟩
  | k + 1, L', hk, h => by
    obtain ⟨L, h1, hs, rfl⟩ := run_prev (by omega) h
    obtain ⟨i1, i2, i3⟩ := mst_inv cs k L (by omega) h1
    have hop := ops_at (cs := cs) (k := k) (by omega)
    refine ⟨by simp only [mst]; rw [hop, i1], step_ok (by omega) i2, ?_⟩
    intro j hj hj2 h52
    simp only [mst]
    rw [hop, i1]
    by_cases e : j = k
    · subst e
      rw [h52] at hs ⊢
      have hsome : (firstIx L Blk.l L.length).isSome = true := by simpa [standS] using hs
      obtain ⟨i, hi⟩ := Option.isSome_iff_exists.1 hsome
      obtain ⟨_, b, hb, _⟩ := firstIx_lt hi
      obtain ⟨s1, s2, _⟩ := i2 b (List.mem_of_getElem? hb)
      have : visS 52 j L (mst cs j).2 = (mst cs j).2.set j b.s := by simp [visS, hi, hb]
      rw [this]
      exact set_ok' (by rw [mst_len]; omega) ⟨s1, s2⟩
    · exact visS_ok (by omega) i2 (i3 j (by omega) hj2 h52)
/-- Where all lead, if they are of good shape. -/
def matchS (cs : List (Int × Int)) : List Int := leadS (opsI cs) (mst cs cs.length).2 cs.length
def goodS (cs : List (Int × Int)) : Bool := decide (runS (opsI cs) 0 [] = some [])
def MatchEnd (cs : List (Int × Int)) (w : World) (e : Ending) (w' : World) : Prop :=
  (if goodS cs = true then ∃ g, w.heap.size ≤ g ∧ e = .returned (.tuple #[.slice (some ⟨g, 0, none⟩) cs.length cs.length, .int .i64 0]) ∧ NumBlk g (matchS cs) w' else e = .returned (.tuple #[.slice none 0 0, .int .i64 31])) ∧ Below w.heap.size w w'
/-- What holds of the boxes while Match walks. -/
structure MJ (cs : List (Int × Int)) (ca : Option Addr) (cc cb co cB mB g B : Nat) (w0 : World) (k : Nat) (W : World) : Prop where
  c : W.heap[cB]? = some (.cells #[.slice ca cs.length cc] 42 (0, 0))
  m : W.heap[mB]? = some (.cells #[.slice (some ⟨g, 0, none⟩) cs.length cs.length] 27 (0, 0))
  n : NumBlk g (mst cs k).2 W
  a : ∀ j (h : j < cs.length), W.cell? ⟨cb, co + j * 2, none⟩ = some (.int .i64 cs[j].1) ∧ W.cell? ⟨cb, co + j * 2 + 1, none⟩ = some (.int .i64 cs[j].2)
  b : Below B w0 W
theorem Only.belowB {g B : Nat} {W W' : World} (h : Only g W W') (hB : B ≤ g) (hg : g < W.heap.size) : Below B W W' := ⟨h.os, h.tape, h.output, h.size, fun k hk => h.block k (by omega) (fun e => by cases e; omega)⟩
theorem blk_ne {W : World} {a b : Nat} {x y : Array Value} {s t : TypeId} {u v : Nat × Nat} (ha : W.heap[a]? = some (.cells x s u)) (hb : W.heap[b]? = some (.cells y t v)) (hne : s ≠ t) : a ≠ b := by
  rintro rfl
  rw [ha] at hb
  cases hb
  exact hne rfl
theorem mwalk (cs : List (Int × Int)) (ca : Option Addr) (cc cb co cB mB g B : Nat) (w0 W : World) (hca : cs = [] ∨ ca = some ⟨cb, co, none⟩) (hn : cs.length ≤ 9000000000000) (hcb : 0 < cs.length → cb < B) (hBg : B ≤ g) (hBW : B ≤ W.heap.size) (h0 : MJ cs ca cc cb co cB mB g B w0 0 W) :
    Calls Tryz.prog 42 #[.slice ca cs.length cc, .func (.func 43) #[] #[.pointer (some ⟨cB, 0, none⟩), .pointer (some ⟨mB, 0, none⟩)]] W (WalkEnd cs (MJ cs ca cc cb co cB mB g B w0)) := by
  refine walk_any cs ca cc cb co hca hn W (MJ cs ca cc cb co cB mB g B w0) (fun _ _ h => h.a) ?_ 43 _ (Go.Proofs.enters_of Tryz.func43 (by kernel_rfl) rfl) ?_ h0
  · intro k w1 w2 h mv bl
    refine ⟨mv.2 _ _ _ _ (by decide) (by decide) h.c, mv.2 _ _ _ _ (by decide) (by decide) h.m, mv.2 _ _ _ _ (by decide) (by decide) h.n, fun j hj => ?_, h.b.trans (bl.mono hBW)⟩
    have := hcb (by omega)
    obtain ⟨a0, a1⟩ := h.a j hj
    exact ⟨(bl.cell (by show cb < _; omega)).trans a0, (bl.cell (by show cb < _; omega)).trans a1⟩
  · intro k hk p L a cap w1 hp hrun hst hl8 hS hJ
    obtain ⟨i1, i2, _⟩ := mst_inv cs k L (by omega) hrun
    have hcb' := hcb (by omega)
    have hgl : g < W.heap.size := blk_lt h0.n
    have ha : ca = some ⟨cb, co, none⟩ := by
      rcases hca with h | h
      · rw [h] at hk; cases hk
      · exact h
    have hJc := hJ.c
    rw [ha] at hJc
    refine (visit_any (nn := cs[k].1) (ms := (mst cs k).2) w1 hS hl8 hk (mst_len cs k) i2 hst hJc hJ.m (hJ.a k hk).1 hJ.n (by omega)).mono ?_
    rintro e w2 ⟨rfl, hS2, hN2, hO2⟩
    have hcg := blk_ne hJ.c hJ.n (by decide)
    have hmg := blk_ne hJ.m hJ.n (by decide)
    refine ⟨rfl, ⟨a, cap, hS2⟩, ⟨hO2.obj hJ.c hcg, hO2.obj hJ.m hmg, ?_, fun j hj => ?_, hJ.b.trans (hO2.belowB hBg (blk_lt hJ.n))⟩, hO2.size, fun q cur z hq => hO2.obj hq (blk_ne hq hJ.n (by decide))⟩
    · simp only [mst]
      rw [ops_at hk, i1]
      exact hN2
    · obtain ⟨a0, a1⟩ := hJ.a j hj
      have hne : some cb ≠ some g := fun e => by cases e; omega
      exact ⟨hO2.cell a0 hne, hO2.cell a1 hne⟩
set_option maxRecDepth 100000 in
set_option maxHeartbeats 1000000 in
theorem match_any (cs : List (Int × Int)) (ca : Option Addr) (cc cb co : Nat) (hca : cs = [] ∨ ca = some ⟨cb, co, none⟩) (hn : cs.length ≤ 9000000000000) (w : World)
    (hc : ∀ j (h : j < cs.length), w.cell? ⟨cb, co + j * 2, none⟩ = some (.int .i64 cs[j].1) ∧ w.cell? ⟨cb, co + j * 2 + 1, none⟩ = some (.int .i64 cs[j].2)) :
    Calls Tryz.prog 22 #[.slice ca cs.length cc] w (MatchEnd cs w) := by
  have hcb : 0 < cs.length → cb < w.heap.size := fun h0 => World.block_lt_of_cell? w _ (hc 0 h0).1
  obtain ⟨n, hn'⟩ : ∃ n, n = cs.length := ⟨_, rfl⟩
  have HN := hid6 hn'
  rw [← hn'] at hn ⊢
  have HC := hid6 hc
  have HA := hid6 hca
  have HCB := hid6 hcb
  clear hc hca hcb hn'
  have hb1 := (((Below.refl _ w).alloc (Nat.le_refl _) (.cells #[.slice ca n cc] 42)).alloc (by simp) (.cells #[.int .i64 (-1)] 3))
  have hx1 : ((w.alloc (.cells #[.slice ca n cc] 42)).alloc (.cells #[.int .i64 (-1)] 3)).heap[w.heap.size]? = some (.cells #[.slice ca n cc] 42 (0, 0)) := by
    rw [((Below.refl _ (w.alloc (.cells #[.slice ca n cc] 42))).alloc (Nat.le_refl _) (.cells #[.int .i64 (-1)] 3)).block _ (by simp)]
    exact heap_alloc_new w _
  obtain ⟨w1, hw1⟩ : ∃ w1, w1 = (w.alloc (.cells #[.slice ca n cc] 42)).alloc (.cells #[.int .i64 (-1)] 3) := ⟨_, rfl⟩
  have hs1 : w1.heap.size = w.heap.size + 2 := by rw [hw1]; simp
  have hR : Calls Tryz.prog 41 #[.slice (some ⟨w.heap.size + 1, 0, none⟩) 1 1, .int .i64 n] w1 fun e w2 => ∃ G, w.heap.size ≤ G ∧ e = .returned (.slice (some ⟨G, 0, none⟩) n n) ∧ Hid (NumBlk G (List.replicate n (-1)) w2 ∧ w2.heap[w.heap.size]? = some (.cells #[.slice ca n cc] 42 (0, 0)) ∧ Below w.heap.size w w2) := by
    refine (repeat_any (w.heap.size + 1) n hn w1 (by
      rw [hw1]
      have := (one_cell (heap_alloc_new (w.alloc (.cells #[.slice ca n cc] 42)) (.cells #[.int .i64 (-1)] 3))).1
      rw [World.size_alloc] at this
      exact this)).mono ?_
    rintro e w2 ⟨rfl, h2, h3⟩
    refine ⟨_, by omega, rfl, hid6 ⟨h2, ?_, ?_⟩⟩
    · rw [h3.block _ (by omega), hw1]
      exact hx1
    · rw [← hw1] at hb1
      exact hb1.trans (h3.mono (by omega))
  rw [hw1] at hR
  clear hw1 hs1 hx1 hb1
  have HJ0 : Hid (∀ w2 G, w.heap.size ≤ G → NumBlk G (List.replicate n (-1)) w2 ∧ w2.heap[w.heap.size]? = some (.cells #[.slice ca n cc] 42 (0, 0)) ∧ Below w.heap.size w w2 → Calls Tryz.prog 42 #[.slice ca n cc, .func (.func 43) #[] #[.pointer (some ⟨w.heap.size, 0, none⟩), .pointer (some ⟨w2.heap.size, 0, none⟩)]] (w2.alloc (.cells #[.slice (some ⟨G, 0, none⟩) n n] 27)) (WalkEnd cs (MJ cs ca cc cb co w.heap.size w2.heap.size G w.heap.size w))) := hid6 (by
    rintro w2 G hG ⟨h1, h2, h3⟩
    have e := HN.out
    subst e
    have b2 := (Below.refl _ w2).alloc (Nat.le_refl _) (.cells #[.slice (some ⟨G, 0, none⟩) cs.length cs.length] 27)
    have b3 := h3.trans (b2.mono h3.size)
    refine mwalk cs ca cc cb co w.heap.size w2.heap.size G w.heap.size w _ HA.out hn HCB.out hG b3.size ⟨(b2.block _ (blk_lt h2)).trans h2, heap_alloc_new w2 _, h1.alloc _, fun j hj => ?_, b3⟩
    have hl := HCB.out (by omega)
    obtain ⟨a0, a1⟩ := HC.out j hj
    exact ⟨(b3.cell hl).trans a0, (b3.cell hl).trans a1⟩)
  cases hgd : goodS cs with
  | false =>
    have HF : Hid (decide (runS (opsI cs) 0 [] = some []) = false) := hid6 hgd
    have HM : Hid (∀ e w', e = .returned (.tuple #[.slice none 0 0, .int .i64 31]) → Below w.heap.size w w' → MatchEnd cs w e w') := hid6 fun e w' he hb => ⟨by rw [hgd]; exact he, hb⟩
    clear hgd
    go_enter Tryz.func22, Tryz.ntmps22
    go_wp2_with (first
      | (go_at_call 41; refine hR.mono ?_; clear hR; rintro e w2 ⟨G, hG, rfl, H2⟩; have hc2 := (one_cell H2.out.2.1).1; have hl2 := blk_lt H2.out.2.1)
      | (go_at_call 42; refine (HJ0.out w2 G hG H2.out).mono ?_; rintro e w3 ⟨he, k, hJ, _⟩; rw [HF.out] at he; subst he)
      | fail)
    go_ret2
    exact HM.out _ _ rfl hJ.b
  | true =>
    have HF : Hid (decide (runS (opsI cs) 0 [] = some []) = true) := hid6 hgd
    have HM : Hid (∀ e w' G, w.heap.size ≤ G → e = .returned (.tuple #[.slice (some ⟨G, 0, none⟩) n n, .int .i64 0]) → NumBlk G (matchS cs) w' → Below w.heap.size w w' → MatchEnd cs w e w') := hid6 fun e w' G hG he hN hb => ⟨by rw [hgd]; rw [HN.out] at he; exact ⟨G, hG, he, hN⟩, hb⟩
    have HL : Hid (∀ mB G W, w.heap.size ≤ G → MJ cs ca cc cb co w.heap.size mB G w.heap.size w cs.length W → Calls Tryz.prog 47 #[.slice ca n cc, .slice (some ⟨G, 0, none⟩) n n] W fun e w' => e = .returned (.tuple #[]) ∧ NumBlk G (matchS cs) w' ∧ Only G W w') := hid6 (by
      intro mB G W hG hJ
      have e := HN.out
      subst e
      have hrun : runS (opsI (cs.take cs.length)) 0 [] = some [] := by rw [List.take_length]; exact of_decide_eq_true HF.out
      obtain ⟨_, _, i3⟩ := mst_inv cs cs.length [] (Nat.le_refl _) hrun
      by_cases h0 : cs = []
      · subst h0
        exact lead_any [] ca cc (G + 1) co (.inl rfl) hn G _ (mst_len _ _) _ (Nat.le_refl _) (by omega) (fun k h => by cases h) W (fun j h => by cases h) hJ.n
      · have hl : cb < w.heap.size := HCB.out (List.length_pos_iff.2 h0)
        exact lead_any cs ca cc cb co HA.out hn G _ (mst_len _ _) _ (Nat.le_refl _) (by omega) (fun k h h52 => i3 k h h h52) W hJ.a hJ.n)
    clear hgd
    go_enter Tryz.func22, Tryz.ntmps22
    go_wp2_with (first
      | (go_at_call 41; refine hR.mono ?_; clear hR; rintro e w2 ⟨G, hG, rfl, H2⟩; have hc2 := (one_cell H2.out.2.1).1; have hl2 := blk_lt H2.out.2.1)
      | (go_at_call 42; refine (HJ0.out w2 G hG H2.out).mono ?_; rintro e w3 ⟨he, k, hJ, hk⟩; rw [HF.out] at he; subst he; have hk2 := hk (of_decide_eq_true HF.out); subst hk2; have hc3 := (one_cell hJ.c).1; have hm3 := (one_cell hJ.m).1; rw [← HN.out] at hc3 hm3; have HJ := hid6 hJ; clear hJ hk)
      | (go_at_call 47; refine (HL.out _ _ _ hG HJ.out).mono ?_; rintro e w4 ⟨rfl, hN4, hO4⟩; have hm4 := (one_cell (hO4.obj HJ.out.m (blk_ne HJ.out.m HJ.out.n (by decide)))).1; rw [← HN.out] at hm4)
      | fail)
    go_ret2
    exact HM.out _ _ G hG rfl hN4 (HJ.out.b.trans (hO4.belowB hG (blk_lt HJ.out.n)))
end Go.Proofs.YtodagpmcmjleaaaGreat
