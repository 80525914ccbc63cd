/- The document's Parse. -/
import Derived.Test.YtkmfopdklohgnaaDoorVTw
import Derived.Test.YtkmfopdklohgnaaDoorVO
namespace Go.Proofs.YtkmfopdklohgnaaDoor
open Go.RowKit Go.Shelf
attribute [local go_sem high] eq_val eq_val0
/-- How far Parse is: some pieces are done, and a piece is begun, or all are done. -/
def PSt (s : List UInt8) (done : List (List UInt8)) (f i : Nat) : Prop :=
  (i ≤ s.length ∧ ∃ p, pieces s = done ++ pieces (p ++ s.drop i) ∧ s.drop f = p ++ s.drop i ∧ p.length + f = i ∧ ∀ c ∈ p, c ≠ 32) ∨ (i = s.length + 1 ∧ pieces s = done)
theorem PSt.start (s : List UInt8) : PSt s [] 0 0 := .inl ⟨Nat.zero_le _, [], by simp, by simp, rfl, by simp⟩
theorem PSt.next {s : List UInt8} {done : List (List UInt8)} {f i : Nat} (h : PSt s done f i) (hi : i < s.length) (hc : s[i] ≠ 32) : PSt s done f (i + 1) := by
  rcases h with ⟨_, p, h1, h2, h3, h4⟩ | ⟨h, _⟩
  · have e : s.drop i = s[i] :: s.drop (i + 1) := List.drop_eq_getElem_cons hi
    refine .inl ⟨hi, p ++ [s[i]], ?_, ?_, by simp; omega, ?_⟩
    · rw [h1, e]; simp
    · rw [h2, e]; simp
    · intro c hcm
      rcases List.mem_append.1 hcm with h | h
      · exact h4 c h
      · simp at h; rw [h]; exact hc
  · omega
/-- The piece that ends here. -/
theorem PSt.cut {s : List UInt8} {done : List (List UInt8)} {f i : Nat} (h : PSt s done f i) (hi : i ≤ s.length) (hc : ∀ (h : i < s.length), s[i] = 32) : ∃ p : List UInt8, (⟨s.toArray⟩ : ByteArray).extract f i = ⟨p.toArray⟩ ∧ f ≤ i ∧ p.length ≤ s.length ∧ p ∈ pieces s ∧ PSt s (done ++ [p]) (i + 1) (i + 1) := by
  rcases h with ⟨_, p, h1, h2, h3, h4⟩ | ⟨h, _⟩
  · refine ⟨p, ?_, by omega, by omega, ?_⟩
    · apply ByteArray.ext
      rw [ByteArray.data_extract]
      have : (s.drop f).take (i - f) = p := by rw [h2, List.take_left' (by omega)]
      rw [← this]
      simp
    · by_cases hlt : i < s.length
      · have e : s.drop i = 32 :: s.drop (i + 1) := by rw [List.drop_eq_getElem_cons hlt, hc hlt]
        have hp : pieces (p ++ s.drop i) = p :: pieces (s.drop (i + 1)) := by
          rw [e, pieces_some (idx_at p _ h4)]
          simp
        rw [hp] at h1
        refine ⟨by rw [h1]; simp, .inl ⟨hlt, [], by rw [h1]; simp, by simp, by simp, by simp⟩⟩
      · have e : s.drop i = [] := List.drop_of_length_le (by omega)
        have hp : pieces (p ++ s.drop i) = [p] := by
          rw [e, List.append_nil, pieces_none (idx_none p h4)]
        rw [hp] at h1
        exact ⟨by rw [h1]; simp, .inr ⟨by omega, h1⟩⟩
  · omega
theorem PSt.done {s : List UInt8} {done : List (List UInt8)} {f i : Nat} (h : PSt s done f i) (hi : s.length < i) : pieces s = done := by
  rcases h with ⟨h, _⟩ | ⟨_, h⟩
  · omega
  · exact h
theorem PSt.le {s : List UInt8} {done : List (List UInt8)} {f i : Nat} (h : PSt s done f i) : i ≤ s.length + 1 := by
  rcases h with ⟨h, _⟩ | ⟨h, _⟩ <;> omega
theorem PSt.len {s : List UInt8} {done : List (List UInt8)} {f i : Nat} (h : PSt s done f i) : done.length ≤ s.length + 1 := by
  have := pieces_length _ s (Nat.le_refl _)
  rcases h with ⟨_, p, h, _⟩ | ⟨_, h⟩
  · rw [h, List.length_append] at this; omega
  · rw [h] at this; omega
theorem new3q (W : World) (t n : Int) (b : List UInt8) (B : Nat) (hB : W.heap.size = B) : ∀ j u, [Value.int .i64 t, .int .i64 n, .string ⟨b.toArray⟩][j]? = some u → (W.alloc (.cells #[.int .i64 t, .int .i64 n, .string ⟨b.toArray⟩] 39)).cell? ((⟨B, 0, none⟩ : Addr).add j) = some u := by
  subst hB
  exact cells_new W [.int .i64 t, .int .i64 n, .string ⟨b.toArray⟩] 39
set_option maxRecDepth 100000 in
set_option maxHeartbeats 1000000 in
theorem rparse_any (s : List UInt8) (w : World) (hs0 : s ≠ []) (hs : s.length ≤ 1048576) : Calls Tryd.prog 6 #[.string ⟨s.toArray⟩] w (ParseEnd s readOf w) := by
  obtain ⟨i0, hi, hz0, hz1, hz2⟩ := info_parts val_info
  have hl0 : 0 < s.length := by cases s with | nil => exact absurd rfl hs0 | cons => simp
  have hl0' : (0 : Int) < (s.length : Int) := by omega
  go_enter Tryd.func6, Tryd.ntmps6
  go_wp2
  go_loopw [4, 5, 6] (fun v f i wr => ∃ (done : List (List UInt8)) (fn iN : Nat) (v' : Value), v = v' ∧ f = .int .i64 fn ∧ i = .int .i64 iN ∧ Hid (PSt s done fn iN) ∧ Hid (∀ x ∈ done, (readOf x).isSome = true) ∧ wr.ownsRow w.heap.size 39 3 v' done.length (cellsOf' (valsOf readOf done)) ∧ Below w.heap.size w wr) (fun _ _ i _ => s.length + 1 - (intOf i).toNat)
  case atStart => exact ⟨[], 0, 0, _, rfl, rfl, rfl, hidV (PSt.start s), hidV (by simp), World.ownsRow_nil _ _ _ _, Below.refl _ _⟩
  case round =>
    obtain ⟨done, fn, iN, v', rfl, rfl, rfl, hP, hall, hrow, hb⟩ := hrel
    have hle := hP.out.le
    by_cases h1 : iN ≤ s.length
    · have h1' : (iN : Int) ≤ (s.length : Int) := by omega
      by_cases h2 : ∃ (h : iN < s.length), s[iN] ≠ 32
      · obtain ⟨hlt, hc⟩ := h2
        have HN : Hid (PSt s done fn (iN + 1)) := hidV (hP.out.next hlt hc)
        have e0 : (⟨s.toArray⟩ : ByteArray)[iN]'(by show iN < s.toArray.size; simpa using hlt) = s[iN] := by simp [ByteArray.getElem_eq_getElem_data]
        generalize s[iN] = c at e0 hc
        have hlt' : (iN : Int) < (s.length : Int) := by omega
        have hcn : ((c.toNat : Int) != 32) = true := by
          have : c.toNat ≠ 32 := fun h => hc (UInt8.toNat_inj.1 h)
          simp
          omega
        go_wp2
        exact ⟨⟨done, fn, iN + 1, _, rfl, rfl, by go_num, HN, hall, hrow, hb⟩, by simp [intOf]; omega⟩
      · have hc : ∀ (h : iN < s.length), s[iN] = 32 := fun h => by
          by_cases hh : s[iN] = 32
          · exact hh
          · exact absurd ⟨h, hh⟩ h2
        obtain ⟨p, hcut, hfi, hpl, hmem, hnext⟩ := hP.out.cut h1 hc
        have HM : Hid (p ∈ pieces s) := hidV hmem
        have HN : Hid (PSt s (done ++ [p]) (iN + 1) (iN + 1)) := hidV hnext
        have hdl := hnext.len
        rw [List.length_append] at hdl
        have hW := fun W => rword_any p (by omega) W
        have HC : Hid (∀ x, readOf p = some x → cellsOf' (valsOf readOf (done ++ [p])) = cellsOf' (valsOf readOf done) ++ [.int .i64 x.t, .int .i64 x.n, .string ⟨x.b.toArray⟩]) := hidV fun x hx => by
          rw [vals_snoc, cells_snoc, hx]
          rfl
        clear hmem hnext h2
        generalize cellsOf' (valsOf readOf done) = xs at hrow HC
        cases hsm : (readOf p).isSome with
        | false =>
          have HS := hidV hsm
          have hW' : ∀ W, Calls Tryd.prog 14 #[.string ⟨p.toArray⟩] W fun e w' => ∃ x : Val, e = .returned (.tuple #[x.v, .bool false]) ∧ Below W.heap.size W w' := fun W => (hW W).mono fun e w' ⟨x, he, _, hb⟩ => ⟨x, by rw [he, hsm], hb⟩
          clear hW hsm
          by_cases hlt : iN < s.length
          · have e0 : (⟨s.toArray⟩ : ByteArray)[iN]'(by show iN < s.toArray.size; simpa using hlt) = 32 := by rw [← hc hlt]; simp [ByteArray.getElem_eq_getElem_data]
            have hlt' : (iN : Int) < (s.length : Int) := by omega
            clear hc
            go_wp2_with (go_at_call 14; refine (hW' _).mono ?_; rintro e w1 ⟨x, rfl, hb1⟩; simp only [Val.v])
            go_ret2
            exact ⟨(hb.trans (hb1.mono hb.size)).alloc (Nat.le_trans hb.size hb1.size) _, .inr ⟨⟨p, HM.out, HS.out⟩, rfl⟩⟩
          · have hge' : (s.length : Int) ≤ (iN : Int) := by omega
            clear hc
            go_wp2_with (go_at_call 14; refine (hW' _).mono ?_; rintro e w1 ⟨x, rfl, hb1⟩; simp only [Val.v])
            go_ret2
            exact ⟨(hb.trans (hb1.mono hb.size)).alloc (Nat.le_trans hb.size hb1.size) _, .inr ⟨⟨p, HM.out, HS.out⟩, rfl⟩⟩
        | true =>
          obtain ⟨y, hy⟩ := Option.isSome_iff_exists.1 hsm
          have HC2 : Hid (cellsOf' (valsOf readOf (done ++ [p])) = xs ++ [.int .i64 y.t, .int .i64 y.n, .string ⟨y.b.toArray⟩]) := hidV (HC.out y hy)
          have HA : Hid (∀ x ∈ done ++ [p], (readOf x).isSome = true) := hidV fun x hx => by
            rcases List.mem_append.1 hx with h | h
            · exact hall.out x h
            · simp at h; rw [h]; exact hsm
          have hW' : ∀ W, Calls Tryd.prog 14 #[.string ⟨p.toArray⟩] W fun e w' => e = .returned (.tuple #[y.v, .bool true]) ∧ Below W.heap.size W w' := fun W => (hW W).mono fun e w' ⟨x, he, hx, hb⟩ => ⟨by rw [he, hsm, hx y hy], hb⟩
          obtain ⟨yt, yn, yb⟩ := y
          simp only [Val.v] at hW' HC2
          clear hW hsm HC hy
          have hdl2 : done.length ≤ 1048577 := by simp at hdl; omega
          by_cases hlt : iN < s.length
          · have e0 : (⟨s.toArray⟩ : ByteArray)[iN]'(by show iN < s.toArray.size; simpa using hlt) = 32 := by rw [← hc hlt]; simp [ByteArray.getElem_eq_getElem_data]
            have hlt' : (iN : Int) < (s.length : Int) := by omega
            clear hc
            go_wp2_with (first | (go_at_call 14; refine (hW' _).mono ?_; rintro e w1 ⟨rfl, hb1⟩; have hbw1 := hb.trans (hb1.mono hb.size); have hrow1 := row_below hrow hb1) | (at_builtin; refine wpList_append_own_at _ rfl _ _ 22 rfl w.heap.size 39 i0 _ 3 32 Tryd.underlying22 hi hz0 hz1 hz2 rfl (by decide) u4 done.length _ rfl (World.ownsRow.alloc (World.ownsRow.alloc hrow1 _) _) ⟨w1.heap.size + 1, 0, none⟩ 1 1 [.int .i64 yt, .int .i64 yn, .string ⟨yb.toArray⟩] rfl rfl (new3q (w1.alloc (.cells #[.int .i64 yt, .int .i64 yn, .string ⟨yb.toArray⟩] 39)) yt yn yb (w1.heap.size + 1) (by simp)) (by simp [Value.oneCell']) (by unfold maxLen; omega) (by omega) (by have := hbw1.size; simp; omega) ?_; intro v' w6 hown2 hgrow _ _; have hb6 : Below w.heap.size w w6 := ((hbw1.alloc hbw1.size _).alloc (by have := hbw1.size; simp; omega) _).grown hgrow (by have := hbw1.size; simp; omega) (fun j hj => (hrow1.lt j hj).1)))
            rw [← HC2.out] at hown2
            refine ⟨⟨done ++ [p], iN + 1, iN + 1, _, rfl, by go_num, by go_num, HN, HA, by rw [List.length_append]; exact hown2, hb6⟩, by simp [intOf]; omega⟩
          · have hge' : (s.length : Int) ≤ (iN : Int) := by omega
            clear hc
            go_wp2_with (first | (go_at_call 14; refine (hW' _).mono ?_; rintro e w1 ⟨rfl, hb1⟩; have hbw1 := hb.trans (hb1.mono hb.size); have hrow1 := row_below hrow hb1) | (at_builtin; refine wpList_append_own_at _ rfl _ _ 22 rfl w.heap.size 39 i0 _ 3 32 Tryd.underlying22 hi hz0 hz1 hz2 rfl (by decide) u4 done.length _ rfl (World.ownsRow.alloc (World.ownsRow.alloc hrow1 _) _) ⟨w1.heap.size + 1, 0, none⟩ 1 1 [.int .i64 yt, .int .i64 yn, .string ⟨yb.toArray⟩] rfl rfl (new3q (w1.alloc (.cells #[.int .i64 yt, .int .i64 yn, .string ⟨yb.toArray⟩] 39)) yt yn yb (w1.heap.size + 1) (by simp)) (by simp [Value.oneCell']) (by unfold maxLen; omega) (by omega) (by have := hbw1.size; simp; omega) ?_; intro v' w6 hown2 hgrow _ _; have hb6 : Below w.heap.size w w6 := ((hbw1.alloc hbw1.size _).alloc (by have := hbw1.size; simp; omega) _).grown hgrow (by have := hbw1.size; simp; omega) (fun j hj => (hrow1.lt j hj).1)))
            rw [← HC2.out] at hown2
            refine ⟨⟨done ++ [p], iN + 1, iN + 1, _, rfl, by go_num, by go_num, HN, HA, by rw [List.length_append]; exact hown2, hb6⟩, by simp [intOf]; omega⟩
    · have hgt : (s.length : Int) < (iN : Int) := by omega
      have HD : Hid (pieces s = done) := hidV (hP.out.done (by omega))
      go_wp2
      go_ret2
      refine ⟨hb, .inl ⟨by rw [HD.out]; exact hall.out, _, rfl, ?_⟩⟩
      rw [HD.out]
      exact hrow
theorem rparse_none (w : World) : Calls Tryd.prog 6 #[.string ⟨#[]⟩] w fun e w' => e = .returned (.tuple #[.slice none 0 0, .int .i64 0]) ∧ Below w.heap.size w w' := by
  go_enter Tryd.func6, Tryd.ntmps6
  go_wp2
  go_loopw [4, 6] (fun v i wr => v = .slice none 0 0 ∧ i = .int .i64 0 ∧ wr = w) (fun _ _ _ => 0)
  case atStart => exact ⟨rfl, rfl, rfl⟩
  case round =>
    obtain ⟨rfl, rfl, rfl⟩ := hrel
    go_wp2
    go_ret2
    exact ⟨rfl, Below.refl _ _⟩
end Go.Proofs.YtkmfopdklohgnaaDoor
