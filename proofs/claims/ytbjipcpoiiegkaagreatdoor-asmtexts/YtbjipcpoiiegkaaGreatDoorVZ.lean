/- Zero and the document's Zero and Truth. The document's Word. The document's Parse. The document's words: a text cut at its blanks. -/
import Derived.Test.YtbjipcpoiiegkaaGreatDoorVG
import Derived.Test.YtbjipcpoiiegkaaGreatDoorVTn
import Derived.Test.YtbjipcpoiiegkaaGreatDoorVX
import Derived.Test.YtbjipcpoiiegkaaGreatDoorAH
namespace Go.Proofs.YtbjipcpoiiegkaaGreatDoor
open Go.RowKit Go.Shelf
attribute [local go_sem high] eq_val eq_val0
def zeroV (k : Int) : Val := if k = 1 ∨ k = 2 ∨ k = 3 then ⟨k, 0, []⟩ else ⟨0, 0, []⟩
set_option maxHeartbeats 1000000 in
theorem rtruth_any (c : Bool) (w : World) : Calls Tryz.prog 85 #[.bool c] w fun e w' => e = .returned (Val.v (Val.truth c)) ∧ Below w.heap.size w w' := by
  cases c
  all_goals
    go_enter Tryz.func85, Tryz.ntmps85
    go_wp2
    first
      | exact ret_at _ w.heap.size (Val.truth false) rfl rfl rfl (val_new w (Val.truth false)) ⟨rfl, (Below.refl _ w).alloc (Nat.le_refl _) _⟩
      | exact ret_at _ w.heap.size (Val.truth true) rfl rfl rfl (val_new w (Val.truth true)) ⟨rfl, (Below.refl _ w).alloc (Nat.le_refl _) _⟩
end Go.Proofs.YtbjipcpoiiegkaaGreatDoor
namespace Go.Proofs.YtbjipcpoiiegkaaGreatDoor
open Go.RowKit Go.Shelf
attribute [local go_sem high] eq_val eq_val0
/-- How Word ends. -/
def WordEnd (s : List UInt8) (w : World) (e : Ending) (w' : World) : Prop := ∃ x : Val, e = .returned (.tuple #[x.v, .bool (readOf s).isSome]) ∧ (∀ y, readOf s = some y → x = y) ∧ Below w.heap.size w w'
theorem dec_read {s : List UInt8} (h1 : s ≠ wTrue) (h2 : s ≠ wFalse) (hx : Lib.hasPrefix s [120, 39] = true → readOf s = none) {n : Int} {ok : Bool} (h : (ok = true ∧ IsNum s n) ∨ (ok = false ∧ ∀ v, ¬ IsNum s v)) : (readOf s).isSome = ok ∧ ∀ y, readOf s = some y → ⟨1, n, []⟩ = y := by
  cases h3 : Lib.hasPrefix s [120, 39] with
  | true =>
    rw [hx h3]
    rcases h with ⟨rfl, hn⟩ | ⟨rfl, _⟩
    · obtain ⟨c, r, rfl, hc⟩ := num_head hn
      simp [Lib.hasPrefix, List.isPrefixOf] at h3
      exact absurd h3.1.symm hc
    · exact ⟨rfl, fun y hy => by cases hy⟩
  | false =>
    rcases read_num h1 h2 h3 with ⟨v, hv, he⟩ | ⟨hno, he⟩
    · rw [he]
      rcases h with ⟨rfl, hn⟩ | ⟨rfl, hno⟩
      · have : n = v := by
          have a := atoi_itoa n hn.2.1 hn.2.2
          have b := atoi_itoa v hv.2.1 hv.2.2
          rw [hn.1] at a
          rw [hv.1, a] at b
          injection b
        subst this
        exact ⟨rfl, fun y hy => Option.some.inj hy⟩
      · exact absurd hv (hno v)
    · rw [he]
      rcases h with ⟨rfl, hn⟩ | ⟨rfl, _⟩
      · exact absurd hn (hno n)
      · exact ⟨rfl, fun y hy => by cases hy⟩
set_option maxRecDepth 100000 in
set_option maxHeartbeats 1000000 in
theorem rword_any (s : List UInt8) (hs : s.length ≤ 1048576) (w : World) : Calls Tryz.prog 66 #[.string ⟨s.toArray⟩] w (WordEnd s w) := by
  have hT := fun c W => rtruth_any c W
  by_cases h1 : s = wTrue
  · have q1 : (s == [116, 114, 117, 101]) = true := by simp [h1, wTrue]
    have HR : Hid (readOf s = some (Val.truth true)) := hidV (by rw [h1]; exact read_3)
    clear h1
    go_enter Tryz.func66, Tryz.ntmps66
    go_wp2_with (go_at_call 85; refine (hT true _).mono ?_; rintro e w1 ⟨rfl, hb1⟩; have hB := boxed_new hb1; obtain ⟨⟨c0, c1, c2⟩, hf⟩ := hB.facts; have f0 := hf 0; have f1 := hf 1; have f2 := hf 2; simp only [Val.v, Val.truth])
    refine ret_read (x := Val.truth true) rfl rfl rfl rfl (set_box hB (Val.truth true)) ⟨Val.truth true, by rw [HR.out]; rfl, (fun y hy => by rw [HR.out] at hy; exact Option.some.inj hy), ?_⟩
    exact below_set3 (((Below.refl _ w).alloc (Nat.le_refl _) _).trans (hb1.mono (by simp))) (Nat.le_refl _)
  have q1 : (s == [116, 114, 117, 101]) = false := by simpa [wTrue] using h1
  by_cases h2 : s = wFalse
  · have q2 : (s == [102, 97, 108, 115, 101]) = true := by simp [h2, wFalse]
    have HR : Hid (readOf s = some (Val.truth false)) := hidV (by rw [h2]; exact (by decide +kernel : readOf wFalse = some (Val.truth false)))
    clear h1 h2
    go_enter Tryz.func66, Tryz.ntmps66
    go_wp2_with (go_at_call 85; refine (hT false _).mono ?_; rintro e w1 ⟨rfl, hb1⟩; have hB := boxed_new hb1; obtain ⟨⟨c0, c1, c2⟩, hf⟩ := hB.facts; have f0 := hf 0; have f1 := hf 1; have f2 := hf 2; simp only [Val.v, Val.truth])
    refine ret_read (x := Val.truth false) rfl rfl rfl rfl (set_box hB (Val.truth false)) ⟨Val.truth false, by rw [HR.out]; rfl, (fun y hy => by rw [HR.out] at hy; exact Option.some.inj hy), ?_⟩
    exact below_set3 (((Below.refl _ w).alloc (Nat.le_refl _) _).trans (hb1.mono (by simp))) (Nat.le_refl _)
  have q2 : (s == [102, 97, 108, 115, 101]) = false := by simpa [wFalse] using h2
  clear hT
  have hDec := fun W => rdec_any s hs W
  have HD : Hid ((Lib.hasPrefix s [120, 39] = true → readOf s = none) → ∀ (n : Int) (ok : Bool), ((ok = true ∧ IsNum s n) ∨ (ok = false ∧ ∀ v, ¬ IsNum s v)) → (readOf s).isSome = ok ∧ ∀ y, readOf s = some y → ⟨1, n, []⟩ = y) := hidV fun hx n ok h => dec_read h1 h2 hx h
  clear h1 h2
  have fin : ∀ (x : Val) (w1 : World), Below (w.alloc (Val.box ⟨0, 0, []⟩)).heap.size (w.alloc (Val.box ⟨0, 0, []⟩)) w1 → Below w.heap.size w (((w1.setCell ⟨w.heap.size, 0, none⟩ (.int .i64 x.t)).setCell ⟨w.heap.size, 1, none⟩ (.int .i64 x.n)).setCell ⟨w.heap.size, 2, none⟩ (.string ⟨x.b.toArray⟩)) := fun x w1 hb1 => below_set3 (((Below.refl _ w).alloc (Nat.le_refl _) _).trans (hb1.mono (by simp))) (Nat.le_refl _)
  by_cases hl : 3 ≤ s.length
  · have hl' : (3 : Int) ≤ (s.length : Int) := by omega
    have hcut : (⟨s.toArray⟩ : ByteArray).extract 0 2 = ⟨(s.take 2).toArray⟩ := cut_front s 2
    by_cases hp : s.take 2 = [120, 39]
    · have q3 : (s.take 2 == [120, 39]) = true := by simp [hp]
      obtain ⟨m, c, rfl⟩ : ∃ m c, s = 120 :: 39 :: (m ++ [c]) := by
        have e := List.take_append_drop 2 s
        rw [hp] at e
        have hd : s.drop 2 ≠ [] := by
          intro h
          have := congrArg List.length h
          simp at this
          omega
        exact ⟨(s.drop 2).dropLast, (s.drop 2).getLast hd, by rw [List.dropLast_concat_getLast]; exact e.symm⟩
      clear hp q3
      by_cases hc : c = 39
      · subst hc
        have HR : Hid (readOf (120 :: 39 :: (m ++ [39])) = (unhex m).bind fun t => if t.length ≤ 256 then some ⟨2, 0, t⟩ else none) := hidV (read_hex m)
        have hU := fun W => runhex_any m W (by simp at hs; omega)
        have hUl : ∀ t, unhex m = some t → m.length = 2 * t.length := fun t h => unhex_even _ m t (Nat.le_refl _) h
        obtain ⟨S, hS⟩ : ∃ S, S = 120 :: 39 :: (m ++ [39]) := ⟨_, rfl⟩
        have hSl : S.length = m.length + 3 := by rw [hS]; simp
        have hcut2 : (⟨S.toArray⟩ : ByteArray).extract 2 (m.length + 2) = ⟨m.toArray⟩ := by
          apply ByteArray.ext
          rw [ByteArray.data_extract, hS]
          simp
        have e1 : (⟨S.toArray⟩ : ByteArray)[m.length + 2]'(by show m.length + 2 < S.toArray.size; simp; omega) = 39 := by subst hS; simp [ByteArray.getElem_eq_getElem_data]
        have q3 : (S.take 2 == [120, 39]) = true := by simp [hS]
        rw [← hS] at hs q1 q2 hDec HD hl hl' hcut HR ⊢
        clear hS HD hDec
        go_enter Tryz.func66, Tryz.ntmps66
        go_wp2_with (go_at_call 86; refine (hU _).mono ?_; rintro e w1 ⟨t, rfl, ht, hb1⟩; have hB := boxed_new hb1; obtain ⟨⟨c0, c1, c2⟩, hf⟩ := hB.facts; have f0 := hf 0; have f1 := hf 1; have f2 := hf 2; have hlt := (Array.getElem?_eq_some_iff.1 hB).1)
        · rename_i hsm
          obtain ⟨u, hu⟩ := Option.isSome_iff_exists.1 hsm
          obtain rfl := ht u hu
          have ha : (readOf S).isSome = decide ((t.length : Int) ≤ 256) := by
            rw [HR.out, hu]
            simp only [Option.bind_some]
            by_cases h : t.length ≤ 256
            · rw [if_pos h, decide_eq_true (by omega)]; rfl
            · rw [if_neg h, decide_eq_false (by omega)]; rfl
          have hb : ∀ y, readOf S = some y → ⟨2, 0, t⟩ = y := fun y hy => by
            rw [HR.out, hu] at hy
            simp only [Option.bind_some] at hy
            split at hy
            · exact Option.some.inj hy
            · cases hy
          exact ret_read (x := ⟨2, 0, t⟩) rfl rfl rfl rfl (set_box hB ⟨2, 0, t⟩) ⟨_, by rw [ha], hb, fin ⟨2, 0, t⟩ w1 hb1⟩
        · rename_i hsm
          have hu : unhex m = none := by
            cases h : unhex m with
            | none => rfl
            | some u => rw [h] at hsm; simp at hsm
          have hr : readOf S = none := by rw [HR.out, hu]; rfl
          exact ret_read (x := ⟨2, 0, t⟩) rfl rfl rfl rfl (set_box hB ⟨2, 0, t⟩) ⟨_, by rw [hr]; rfl, (fun y hy => by rw [hr] at hy; cases hy), fin ⟨2, 0, t⟩ w1 hb1⟩
      · have HX : Hid (Lib.hasPrefix (120 :: 39 :: (m ++ [c])) [120, 39] = true → readOf (120 :: 39 :: (m ++ [c])) = none) := hidV fun _ => read_unhex (.inr ⟨m, c, rfl, hc⟩)
        obtain ⟨S, hS⟩ : ∃ S, S = 120 :: 39 :: (m ++ [c]) := ⟨_, rfl⟩
        have hSl : S.length = m.length + 3 := by rw [hS]; simp
        have e1 : (⟨S.toArray⟩ : ByteArray)[m.length + 2]'(by show m.length + 2 < S.toArray.size; simp; omega) = c := by subst hS; simp [ByteArray.getElem_eq_getElem_data]
        have hcn : ((c.toNat : Int) == 39) = false := by
          have : c.toNat ≠ 39 := fun h => hc (UInt8.toNat_inj.1 h)
          simp
          omega
        have q3 : (S.take 2 == [120, 39]) = true := by simp [hS]
        rw [← hS] at hs q1 q2 hDec HD hl hl' hcut HX ⊢
        clear hS
        go_enter Tryz.func66, Tryz.ntmps66
        go_wp2_with (go_at_call 30; refine (hDec _).mono ?_; rintro e w1 ⟨n, ok, rfl, hok, hb1⟩; have hB := boxed_new hb1; obtain ⟨⟨c0, c1, c2⟩, hf⟩ := hB.facts; have f0 := hf 0; have f1 := hf 1; have f2 := hf 2; have hlt := (Array.getElem?_eq_some_iff.1 hB).1)
        obtain ⟨ha, hb⟩ := HD.out HX.out n ok hok
        exact ret_read (x := ⟨1, n, []⟩) rfl rfl rfl rfl (set_box hB ⟨1, n, []⟩) ⟨_, by rw [ha], hb, fin ⟨1, n, []⟩ w1 hb1⟩
    · have q3 : (s.take 2 == [120, 39]) = false := by simpa using hp
      have HX : Hid (Lib.hasPrefix s [120, 39] = true → readOf s = none) := hidV fun h => by
        obtain ⟨t, rfl⟩ := List.isPrefixOf_iff_prefix.1 h
        simp at hp
      clear hp
      go_enter Tryz.func66, Tryz.ntmps66
      go_wp2_with (go_at_call 30; refine (hDec _).mono ?_; rintro e w1 ⟨n, ok, rfl, hok, hb1⟩; have hB := boxed_new hb1; obtain ⟨⟨c0, c1, c2⟩, hf⟩ := hB.facts; have f0 := hf 0; have f1 := hf 1; have f2 := hf 2; have hlt := (Array.getElem?_eq_some_iff.1 hB).1)
      obtain ⟨ha, hb⟩ := HD.out HX.out n ok hok
      exact ret_read (x := ⟨1, n, []⟩) rfl rfl rfl rfl (set_box hB ⟨1, n, []⟩) ⟨_, by rw [ha], hb, fin ⟨1, n, []⟩ w1 hb1⟩
  · have hl' : (s.length : Int) < 3 := by omega
    have HX : Hid (Lib.hasPrefix s [120, 39] = true → readOf s = none) := hidV fun h => by
      obtain ⟨t, rfl⟩ := List.isPrefixOf_iff_prefix.1 h
      cases t with
      | nil => exact read_unhex (.inl rfl)
      | cons => simp at hl
    go_enter Tryz.func66, Tryz.ntmps66
    go_wp2_with (go_at_call 30; refine (hDec _).mono ?_; rintro e w1 ⟨n, ok, rfl, hok, hb1⟩; have hB := boxed_new hb1; obtain ⟨⟨c0, c1, c2⟩, hf⟩ := hB.facts; have f0 := hf 0; have f1 := hf 1; have f2 := hf 2; have hlt := (Array.getElem?_eq_some_iff.1 hB).1)
    obtain ⟨ha, hb⟩ := HD.out HX.out n ok hok
    exact ret_read (x := ⟨1, n, []⟩) rfl rfl rfl rfl (set_box hB ⟨1, n, []⟩) ⟨_, by rw [ha], hb, fin ⟨1, n, []⟩ w1 hb1⟩
end Go.Proofs.YtbjipcpoiiegkaaGreatDoor
namespace Go.Proofs.YtbjipcpoiiegkaaGreatDoor
open Go.RowKit Go.Shelf
attribute [local go_sem high] eq_val eq_val0
/-- How far Parse is: some pieces are done, and a piece is begun, or all are done. -/
def PSt (s : List UInt8) (done : List (List UInt8)) (f i : Nat) : Prop :=
  (i ≤ s.length ∧ ∃ p, pieces s = done ++ pieces (p ++ s.drop i) ∧ s.drop f = p ++ s.drop i ∧ p.length + f = i ∧ ∀ c ∈ p, c ≠ 32) ∨ (i = s.length + 1 ∧ pieces s = done)
theorem PSt.start (s : List UInt8) : PSt s [] 0 0 := .inl ⟨Nat.zero_le _, [], by simp, by simp, rfl, by simp⟩
theorem PSt.next {s : List UInt8} {done : List (List UInt8)} {f i : Nat} (h : PSt s done f i) (hi : i < s.length) (hc : s[i] ≠ 32) : PSt s done f (i + 1) := by
  rcases h with ⟨_, p, h1, h2, h3, h4⟩ | ⟨h, _⟩
  · have e : s.drop i = s[i] :: s.drop (i + 1) := List.drop_eq_getElem_cons hi
    refine .inl ⟨hi, p ++ [s[i]], ?_, ?_, by simp; omega, ?_⟩
    · rw [h1, e]; simp
    · rw [h2, e]; simp
    · intro c hcm
      rcases List.mem_append.1 hcm with h | h
      · exact h4 c h
      · simp at h; rw [h]; exact hc
  · omega
/-- The piece that ends here. -/
theorem PSt.cut {s : List UInt8} {done : List (List UInt8)} {f i : Nat} (h : PSt s done f i) (hi : i ≤ s.length) (hc : ∀ (h : i < s.length), s[i] = 32) : ∃ p : List UInt8, (⟨s.toArray⟩ : ByteArray).extract f i = ⟨p.toArray⟩ ∧ f ≤ i ∧ p.length ≤ s.length ∧ p ∈ pieces s ∧ PSt s (done ++ [p]) (i + 1) (i + 1) := by
  rcases h with ⟨_, p, h1, h2, h3, h4⟩ | ⟨h, _⟩
  · refine ⟨p, ?_, by omega, by omega, ?_⟩
    · apply ByteArray.ext
      rw [ByteArray.data_extract]
      have : (s.drop f).take (i - f) = p := by rw [h2, List.take_left' (by omega)]
      rw [← this]
      simp
    · by_cases hlt : i < s.length
      · have e : s.drop i = 32 :: s.drop (i + 1) := by rw [List.drop_eq_getElem_cons hlt, hc hlt]
        have hp : pieces (p ++ s.drop i) = p :: pieces (s.drop (i + 1)) := by
          rw [e, pieces_some (idx_at p _ h4)]
          simp
        rw [hp] at h1
        refine ⟨by rw [h1]; simp, .inl ⟨hlt, [], by rw [h1]; simp, by simp, by simp, by simp⟩⟩
      · have e : s.drop i = [] := List.drop_of_length_le (by omega)
        have hp : pieces (p ++ s.drop i) = [p] := by
          rw [e, List.append_nil, pieces_none (idx_none p h4)]
        rw [hp] at h1
        exact ⟨by rw [h1]; simp, .inr ⟨by omega, h1⟩⟩
  · omega
theorem PSt.done {s : List UInt8} {done : List (List UInt8)} {f i : Nat} (h : PSt s done f i) (hi : s.length < i) : pieces s = done := by
  rcases h with ⟨h, _⟩ | ⟨_, h⟩
  · omega
  · exact h
theorem PSt.le {s : List UInt8} {done : List (List UInt8)} {f i : Nat} (h : PSt s done f i) : i ≤ s.length + 1 := by
  rcases h with ⟨h, _⟩ | ⟨h, _⟩ <;> omega
theorem PSt.len {s : List UInt8} {done : List (List UInt8)} {f i : Nat} (h : PSt s done f i) : done.length ≤ s.length + 1 := by
  have := pieces_length _ s (Nat.le_refl _)
  rcases h with ⟨_, p, h, _⟩ | ⟨_, h⟩
  · rw [h, List.length_append] at this; omega
  · rw [h] at this; omega
theorem new3q (W : World) (t n : Int) (b : List UInt8) (B : Nat) (hB : W.heap.size = B) : ∀ j u, [Value.int .i64 t, .int .i64 n, .string ⟨b.toArray⟩][j]? = some u → (W.alloc (.cells #[.int .i64 t, .int .i64 n, .string ⟨b.toArray⟩] 54)).cell? ((⟨B, 0, none⟩ : Addr).add j) = some u := by
  subst hB
  exact cells_new W [.int .i64 t, .int .i64 n, .string ⟨b.toArray⟩] 54
end Go.Proofs.YtbjipcpoiiegkaaGreatDoor
namespace Go.Proofs.YtbjipcpoiiegkaaGreatDoor
open Go.RowKit Go.Shelf
set_option maxRecDepth 100000 in
set_option maxHeartbeats 2000000 in
theorem rwords_any (s : List UInt8) (w : World) (hs : s.length ≤ 1048576) : Calls Tryz.prog 28 #[.string ⟨s.toArray⟩] w fun e w' => ∃ v, e = .returned v ∧ w'.ownsRow w.heap.size 9 1 v (pieces s).length (cellsS (pieces s)) ∧ Below w.heap.size w w' := by
  go_enter Tryz.func28, Tryz.ntmps28
  go_wp2
  go_loopw [3, 4, 5] (fun v f i wr => ∃ (done : List (List UInt8)) (fn iN : Nat), f = .int .i64 fn ∧ i = .int .i64 iN ∧ Hid (PSt s done fn iN) ∧ wr.ownsRow w.heap.size 9 1 v done.length (cellsS done) ∧ Below w.heap.size w wr) (fun _ _ i _ => s.length + 1 - (intOf i).toNat)
  case atStart => exact ⟨[], 0, 0, rfl, rfl, hid (PSt.start s), World.ownsRow_nil _ _ _ _, Below.refl _ _⟩
  case round =>
    obtain ⟨done, fn, iN, rfl, rfl, hP, hrow, hb⟩ := hrel
    have hle := hP.out.le
    by_cases h1 : iN ≤ s.length
    · have h1' : (iN : Int) ≤ (s.length : Int) := by omega
      by_cases h2 : ∃ (h : iN < s.length), s[iN] ≠ 32
      · obtain ⟨hlt, hc⟩ := h2
        have HN : Hid (PSt s done fn (iN + 1)) := hid (hP.out.next hlt hc)
        have e0 : (⟨s.toArray⟩ : ByteArray)[iN]'(by show iN < s.toArray.size; simpa using hlt) = s[iN] := by simp [ByteArray.getElem_eq_getElem_data]
        generalize s[iN] = c at e0 hc
        have hlt' : (iN : Int) < (s.length : Int) := by omega
        have hne : ((iN : Int) == (s.length : Int)) = false := by simp; omega
        have hcn : ((c.toNat : Int) == 32) = false := by
          have : c.toNat ≠ 32 := fun h => hc (UInt8.toNat_inj.1 h)
          simp
          omega
        go_wp2
        exact ⟨⟨done, fn, iN + 1, rfl, by go_num, HN, hrow, hb⟩, by simp [intOf]; omega⟩
      · have hc : ∀ (h : iN < s.length), s[iN] = 32 := fun h => by
          by_cases hh : s[iN] = 32
          · exact hh
          · exact absurd ⟨h, hh⟩ h2
        obtain ⟨p, hcut, hfi, hpl, hmem, hnext⟩ := hP.out.cut h1 hc
        have HN : Hid (PSt s (done ++ [p]) (iN + 1) (iN + 1)) := hid hnext
        have hdl := hnext.len
        rw [List.length_append] at hdl
        have hdl2 : done.length ≤ 1048577 := by simp at hdl; omega
        have HC := hid (cellsS_snoc done p)
        obtain ⟨nd, hnd⟩ : ∃ nd, nd = done.length := ⟨_, rfl⟩
        have HL := hid hnd
        rw [← hnd] at hrow hdl2
        clear hmem hnext h2 hP hdl hnd
        generalize cellsS done = xs at hrow HC
        by_cases hlt : iN < s.length
        · have e0 : (⟨s.toArray⟩ : ByteArray)[iN]'(by show iN < s.toArray.size; simpa using hlt) = 32 := by rw [← hc hlt]; simp [ByteArray.getElem_eq_getElem_data]
          have hlt' : (iN : Int) < (s.length : Int) := by omega
          have hne : ((iN : Int) == (s.length : Int)) = false := by simp; omega
          clear hc
          go_wp2_with (at_builtin; refine wpList_appN _ rfl _ _ 37 rfl elemN_str w.heap.size _ nd xs rfl (World.ownsRow.alloc hrow _) _ rfl 1 [Value.string ⟨p.toArray⟩] (.inr ⟨⟨wr.heap.size, 0, none⟩, 1, rfl, cells_new5 wr [Value.string ⟨p.toArray⟩] 9 _ rfl⟩) rfl (by simp [Value.oneCell']) (by unfold maxLen; omega) (by omega) (by have := hb.size; simp; omega) ?_; intro v' w6 hr6 hs6)
          rw [← HC.out] at hr6
          exact ⟨⟨done ++ [p], iN + 1, iN + 1, by go_num, by go_num, HN, by rw [List.length_append, ← HL.out]; exact hr6, words_step hb hrow hs6⟩, by simp [intOf]; omega⟩
        · have hge' : (s.length : Int) ≤ (iN : Int) := by omega
          have heq : ((iN : Int) == (s.length : Int)) = true := by simp; omega
          clear hc
          go_wp2_with (at_builtin; refine wpList_appN _ rfl _ _ 37 rfl elemN_str w.heap.size _ nd xs rfl (World.ownsRow.alloc hrow _) _ rfl 1 [Value.string ⟨p.toArray⟩] (.inr ⟨⟨wr.heap.size, 0, none⟩, 1, rfl, cells_new5 wr [Value.string ⟨p.toArray⟩] 9 _ rfl⟩) rfl (by simp [Value.oneCell']) (by unfold maxLen; omega) (by omega) (by have := hb.size; simp; omega) ?_; intro v' w6 hr6 hs6)
          rw [← HC.out] at hr6
          exact ⟨⟨done ++ [p], iN + 1, iN + 1, by go_num, by go_num, HN, by rw [List.length_append, ← HL.out]; exact hr6, words_step hb hrow hs6⟩, by simp [intOf]; omega⟩
    · have hgt : (s.length : Int) < (iN : Int) := by omega
      have HD : Hid (pieces s = done) := hid (hP.out.done (by omega))
      go_wp2
      go_ret
      exact ⟨_, rfl, by rw [HD.out]; exact hrow, hb⟩
end Go.Proofs.YtbjipcpoiiegkaaGreatDoor
