/- The document's Read: the walk. -/
import Derived.Test.YtbjipcpoiiegkaaGreatDoorAW
namespace Go.Proofs.YtbjipcpoiiegkaaGreatDoor
open Go.RowKit Go.Shelf
theorem pieces_pos (s : List UInt8) : 0 < (pieces s).length := by
  rcases idx_cases s with h | ⟨o, h⟩
  · rw [pieces_none h]; simp
  · rw [pieces_some h]; simp
theorem rwords_at (s : List UInt8) (w : World) (hs : s.length ≤ 1048576) : Calls Tryz.prog 28 #[.string ⟨s.toArray⟩] w fun e w' => ∃ g c, e = .returned (.slice (some ⟨g, 0, none⟩) (pieces s).length c) ∧ (∀ j (h : j < (pieces s).length), w'.cell? ⟨g, j, none⟩ = some (.string ⟨(pieces s)[j].toArray⟩)) ∧ Below w.heap.size w w' := by
  refine (rwords_any s w hs).mono ?_
  rintro e w' ⟨v, rfl, hrow, hb⟩
  obtain ⟨a, c, rfl, _, _, h⟩ := row_form hrow
  rcases h with ⟨_, h0, _⟩ | ⟨g, rfl, _, _, hc⟩
  · have := pieces_pos s; omega
  · exact ⟨g, c, rfl, fun j hj => hc j _ (by simp [cellsS, hj]), hb⟩
set_option maxRecDepth 100000 in
set_option maxHeartbeats 2000000 in
theorem rread_any (s : List UInt8) (hs : s.length ≤ 1048576) (w : World) : Calls Tryz.prog 9 #[.string ⟨s.toArray⟩] w (InsEnd (insS s) w) := by
  obtain ⟨W1, hW1⟩ : ∃ W1, W1 = w.alloc (.cells #[.int .i64 0, .int .i64 0] 23) := ⟨_, rfl⟩
  have hb1 : Below w.heap.size w W1 := by rw [hW1]; exact (Below.refl _ w).alloc (Nat.le_refl _) _
  have bA : W1.heap[w.heap.size]? = some (.cells #[.int .i64 0, .int .i64 0] 23 (0, 0)) := by rw [hW1]; exact heap_alloc_new w _
  have box : ∀ W, Below W1.heap.size W1 W → W.heap[w.heap.size]? = some (.cells #[.int .i64 0, .int .i64 0] 23 (0, 0)) := fun W hW => (hW.block _ (lt_of_block bA)).trans bA
  have lift : ∀ W, Below W1.heap.size W1 W → Below w.heap.size w W := fun W h => hb1.trans (h.mono hb1.size)
  have hWd := rwords_at s W1 hs
  clear bA
  rcases idx_cases s with hi | ⟨o, hi⟩
  · rw [pieces_none hi] at hWd
    have hF := find_any s
    obtain ⟨n, ok, hfo⟩ : ∃ n ok, findFrom s 1 = (n, ok) := ⟨_, _, rfl⟩
    have HI := hid (ins_one hi hfo)
    rw [hfo] at hF
    simp only [List.length_cons, List.length_nil] at hWd
    go_enter Tryz.func9, Tryz.ntmps9
    go_wp2_with fail
    rw [← hW1]
    clear hW1
    refine hWd.mono ?_
    rintro e w2 ⟨g, c, rfl, hcs, hb2⟩
    have hsz2 := hb2.size
    have c0 := hcs 0 (by simp)
    simp only [List.getElem_cons_zero] at c0
    cases ok with
    | false =>
      have H1 : Hid (insS s = none) := hid (by rw [HI.out]; simp)
      go_wp2_with (go_at_call 29; refine (rfind_any s _).mono ?_; rw [hfo]; rintro e w3 ⟨rfl, hb3'⟩; have hb3 := hb2.trans (hb3'.mono hsz2); have b3 := box w3 hb3; obtain ⟨p0, p1, z0, z1⟩ := cells2 b3)
      exact ret_ins _ b3 (lift _ hb3) rfl rfl rfl rfl (by rw [H1.out]; rfl) (by rw [H1.out]; rfl)
    | true =>
      have hLn := rline_any n 0 (by omega) (by omega)
      have HI' : Hid (insS s = if lineS (n, 0) = s then some (n, 0) else none) := hid (by rw [HI.out]; simp)
      clear HI
      generalize lineS (n, 0) = ln at hLn HI'
      by_cases hq : ln = s
      · have q : (ln == s) = true := by simp [hq]
        have H1 : Hid (insS s = some (n, 0)) := hid (by rw [HI'.out, if_pos hq])
        go_wp2_with (first | (go_at_call 29; refine (rfind_any s _).mono ?_; rw [hfo]; rintro e w3 ⟨rfl, hb3'⟩; have hb3 := hb2.trans (hb3'.mono hsz2); have b3 := box w3 hb3; obtain ⟨W4, hW4⟩ : ∃ W4, W4 = w3.alloc (.cells #[.int .i64 n, .int .i64 0] 23) := ⟨_, rfl⟩; have hb34 : Below w3.heap.size w3 W4 := (by rw [hW4]; exact (Below.refl _ w3).alloc (Nat.le_refl _) _); have b4 : W4.heap[w3.heap.size]? = some (.cells #[.int .i64 n, .int .i64 0] 23 (0, 0)) := (by rw [hW4]; exact heap_alloc_new w3 _)) | fail)
        rw [← hW4]
        clear hW4
        refine (hLn _).mono ?_
        rintro e w5 ⟨rfl, hb5'⟩
        have hb35 := hb34.trans (hb5'.mono hb34.size)
        have hb5 := hb3.trans (hb35.mono hb3.size)
        have r5 := box w5 hb5
        have x5 := (hb5'.block _ (lt_of_block b4)).trans b4
        obtain ⟨p0, p1, z0, z1⟩ := cells2 r5
        obtain ⟨y0, y1, _, _⟩ := cells2 x5
        go_wp2_with fail
        exact ret_ins _ r5 (lift _ hb5) rfl rfl rfl rfl (by rw [H1.out]; rfl) (by rw [H1.out]; rfl)
      · have q : (ln == s) = false := by simp [hq]
        have H1 : Hid (insS s = none) := hid (by rw [HI'.out, if_neg hq])
        go_wp2_with (first | (go_at_call 29; refine (rfind_any s _).mono ?_; rw [hfo]; rintro e w3 ⟨rfl, hb3'⟩; have hb3 := hb2.trans (hb3'.mono hsz2); have b3 := box w3 hb3; obtain ⟨W4, hW4⟩ : ∃ W4, W4 = w3.alloc (.cells #[.int .i64 n, .int .i64 0] 23) := ⟨_, rfl⟩; have hb34 : Below w3.heap.size w3 W4 := (by rw [hW4]; exact (Below.refl _ w3).alloc (Nat.le_refl _) _); have b4 : W4.heap[w3.heap.size]? = some (.cells #[.int .i64 n, .int .i64 0] 23 (0, 0)) := (by rw [hW4]; exact heap_alloc_new w3 _)) | fail)
        rw [← hW4]
        clear hW4
        refine (hLn _).mono ?_
        rintro e w5 ⟨rfl, hb5'⟩
        have hb35 := hb34.trans (hb5'.mono hb34.size)
        have hb5 := hb3.trans (hb35.mono hb3.size)
        have r5 := box w5 hb5
        have x5 := (hb5'.block _ (lt_of_block b4)).trans b4
        obtain ⟨p0, p1, z0, z1⟩ := cells2 r5
        obtain ⟨y0, y1, _, _⟩ := cells2 x5
        go_wp2_with fail
        exact ret_ins _ r5 (lift _ hb5) rfl rfl rfl rfl (by rw [H1.out]; rfl) (by rw [H1.out]; rfl)
  · obtain ⟨n, ok, hfo⟩ : ∃ n ok, findFrom (s.take o) 1 = (n, ok) := ⟨_, _, rfl⟩
    have ho := idx_lt hi
    have hF := fun W => rfind_any (s.take o) W
    rw [hfo] at hF
    rcases idx_cases (s.drop (o + 1)) with h2 | ⟨o2, h2⟩
    · rw [pieces_some hi, pieces_none h2] at hWd
      have HI : Hid (∀ (d : Int) (ok2 : Bool), ((ok2 = true ∧ IsNum (s.drop (o + 1)) d) ∨ (ok2 = false ∧ ∀ v, ¬ IsNum (s.drop (o + 1)) v)) → insS s = if ok = true ∧ ok2 = true ∧ lineS (n, d) = s then some (n, d) else none) := hid fun d ok2 hd => ins_two hi hs h2 hfo hd
      have hD := fun W => rdec_any (s.drop (o + 1)) (by simp; omega) W
      have HR : Hid (∀ d, IsNum (s.drop (o + 1)) d → -9223372036854775808 ≤ d ∧ d ≤ 9223372036854775807) := hid fun d h => h.2
      have HZ : Hid (ok = false → insS s = none) := hid fun h => by
        by_cases hex : ∃ v, IsNum (s.drop (o + 1)) v
        · obtain ⟨v, hv⟩ := hex
          rw [HI.out v true (.inl ⟨rfl, hv⟩)]
          simp [h]
        · rw [HI.out 0 false (.inr ⟨rfl, fun v hv => hex ⟨v, hv⟩⟩)]
          simp
      clear hfo h2 hi
      simp only [List.length_cons, List.length_nil, Nat.zero_add, Nat.reduceAdd] at hWd
      generalize s.take o = nm at hWd hF
      generalize s.drop (o + 1) = rest at hWd hD HI HR
      go_enter Tryz.func9, Tryz.ntmps9
      go_wp2_with fail
      rw [← hW1]
      clear hW1
      refine hWd.mono ?_
      rintro e w2 ⟨g, c, rfl, hcs, hb2⟩
      have hsz2 := hb2.size
      have c0 := hcs 0 (by omega)
      have c1 := hcs 1 (by omega)
      simp only [List.getElem_cons_zero, List.getElem_cons_succ] at c0 c1
      cases ok with
      | false =>
        have H1 := hid (HZ.out rfl)
        go_wp2_with (go_at_call 29; refine (hF _).mono ?_; rintro e w3 ⟨rfl, hb3'⟩; have hb3 := hb2.trans (hb3'.mono hsz2); have b3 := box w3 hb3; obtain ⟨p0, p1, z0, z1⟩ := cells2 b3)
        exact ret_ins _ b3 (lift _ hb3) rfl rfl rfl rfl (by rw [H1.out]; rfl) (by rw [H1.out]; rfl)
      | true =>
        go_wp2_with (first | (go_at_call 29; refine (hF _).mono ?_; rintro e w3 ⟨rfl, hb3'⟩; have hb3 := hb2.trans (hb3'.mono hsz2); have k1 := below_keep hb3' _ _ c1; have k1' := keepA w3 (.cells #[.int .i64 n, .int .i64 0] 23) _ _ k1) | fail)
        have hb34 := (Below.refl w3.heap.size w3).alloc (Nat.le_refl _) (.cells #[.int .i64 n, .int .i64 0] 23)
        have b4 := heap_alloc_new w3 (.cells #[.int .i64 n, .int .i64 0] 23)
        generalize w3.alloc (.cells #[.int .i64 n, .int .i64 0] 23) = W4 at hb34 b4 ⊢
        have hlr := lt_of_block (box w3 hb3)
        refine (hD _).mono ?_
        rintro e w5 ⟨d, ok2, rfl, hdd, hb5'⟩
        have hb35 := hb34.trans (hb5'.mono hb34.size)
        have hb5 := hb3.trans (hb35.mono hb3.size)
        have r5 := box w5 hb5
        have x5 := (hb5'.block _ (lt_of_block b4)).trans b4
        obtain ⟨p0, p1, z0, z1⟩ := cells2 r5
        obtain ⟨y0, y1, f0, f1⟩ := cells2 x5
        have HI' := hid (HI.out d ok2 hdd)
        clear HI hD HZ
        cases ok2 with
        | false =>
          have H1 : Hid (insS s = none) := hid (by rw [HI'.out]; simp)
          go_wp2_with fail
          exact ret_ins _ r5 (lift _ hb5) rfl rfl rfl rfl (by rw [H1.out]; rfl) (by rw [H1.out]; rfl)
        | true =>
          have hrg := HR.out d (by rcases hdd with h | h; exact h.2; cases h.1)
          have hLn := rline_any n d hrg.1 hrg.2
          have HI2 : Hid (insS s = if lineS (n, d) = s then some (n, d) else none) := hid (by rw [HI'.out]; simp)
          clear HI' HR hdd
          generalize lineS (n, d) = ln at hLn HI2
          have x6 : (w5.setCell ⟨w3.heap.size, 1, none⟩ (.int .i64 d)).heap[w3.heap.size]? = some (.cells #[.int .i64 n, .int .i64 d] 23 (0, 0)) := by simp [World.setCell, Array.getElem?_modify, x5]
          have r6 : (w5.setCell ⟨w3.heap.size, 1, none⟩ (.int .i64 d)).heap[w.heap.size]? = some (.cells #[.int .i64 0, .int .i64 0] 23 (0, 0)) := (Below.heap_setCell _ _ _ _ (by show w.heap.size ≠ w3.heap.size; omega)).trans r5
          have hb6 : Below w.heap.size w (w5.setCell ⟨w3.heap.size, 1, none⟩ (.int .i64 d)) := (lift _ hb5).setCell (p := ⟨w3.heap.size, 1, none⟩) (by show w.heap.size ≤ w3.heap.size; omega) _
          obtain ⟨u0, u1, _, _⟩ := cells2 x6
          go_wp2_with fail
          generalize w5.setCell ⟨w3.heap.size, 1, none⟩ (.int .i64 d) = W6 at x6 r6 hb6 u0 u1 ⊢
          refine (hLn _).mono ?_
          rintro e w7 ⟨rfl, hb7⟩
          have r7 := (hb7.block _ (lt_of_block r6)).trans r6
          have x7 := (hb7.block _ (lt_of_block x6)).trans x6
          have hbw7 := hb6.trans (hb7.mono hb6.size)
          obtain ⟨s0, s1, s2, s3⟩ := cells2 r7
          obtain ⟨t0, t1, _, _⟩ := cells2 x7
          by_cases hq : ln = s
          · have q : (ln == s) = true := by simp [hq]
            have H1 : Hid (insS s = some (n, d)) := hid (by rw [HI2.out, if_pos hq])
            go_wp2_with fail
            exact ret_ins _ r7 hbw7 rfl rfl rfl rfl (by rw [H1.out]; rfl) (by rw [H1.out]; rfl)
          · have q : (ln == s) = false := by simp [hq]
            have H1 : Hid (insS s = none) := hid (by rw [HI2.out, if_neg hq])
            go_wp2_with fail
            exact ret_ins _ r7 hbw7 rfl rfl rfl rfl (by rw [H1.out]; rfl) (by rw [H1.out]; rfl)
    · rw [pieces_some hi, pieces_some h2] at hWd
      have H1 : Hid (insS s = none) := hid (ins_more hi h2)
      clear hfo
      simp only [List.length_cons] at hWd
      have hpp := pieces_pos ((s.drop (o + 1)).drop (o2 + 1))
      generalize pieces ((s.drop (o + 1)).drop (o2 + 1)) = pr at hWd hpp
      replace hWd : Calls Tryz.prog 28 #[.string ⟨s.toArray⟩] W1 fun e w' => ∃ g c, e = .returned (.slice (some ⟨g, 0, none⟩) (pr.length + 1 + 1) c) ∧ w'.cell? ⟨g, 0, none⟩ = some (.string ⟨(s.take o).toArray⟩) ∧ Below W1.heap.size W1 w' := hWd.mono fun e w' ⟨g, c, h1, h2, h3⟩ => ⟨g, c, h1, h2 0 (by omega), h3⟩
      generalize hm : pr.length + 1 + 1 = m at hWd
      have hm2 : (2 : Int) < (m : Int) := by omega
      generalize s.take o = nm at hWd hF
      go_enter Tryz.func9, Tryz.ntmps9
      go_wp2_with fail
      rw [← hW1]
      clear hW1
      refine hWd.mono ?_
      rintro e w2 ⟨g, c, rfl, c0, hb2⟩
      have hsz2 := hb2.size
      cases ok
      all_goals
        go_wp2_with (go_at_call 29; refine (hF _).mono ?_; rintro e w3 ⟨rfl, hb3'⟩; have hb3 := hb2.trans (hb3'.mono hsz2); have b3 := box w3 hb3; obtain ⟨p0, p1, z0, z1⟩ := cells2 b3)
        exact ret_ins _ b3 (lift _ hb3) rfl rfl rfl rfl (by rw [H1.out]; rfl) (by rw [H1.out]; rfl)
end Go.Proofs.YtbjipcpoiiegkaaGreatDoor
