/- The document's Word. -/
import Derived.Test.YtkmfopdklohgnaaDoorVTn
import Derived.Test.YtkmfopdklohgnaaDoorVZ
namespace Go.Proofs.YtkmfopdklohgnaaDoor
open Go.RowKit Go.Shelf
attribute [local go_sem high] eq_val eq_val0
/-- How Word ends. -/
def WordEnd (s : List UInt8) (w : World) (e : Ending) (w' : World) : Prop := ∃ x : Val, e = .returned (.tuple #[x.v, .bool (readOf s).isSome]) ∧ (∀ y, readOf s = some y → x = y) ∧ Below w.heap.size w w'
theorem dec_read {s : List UInt8} (h1 : s ≠ wTrue) (h2 : s ≠ wFalse) (hx : Lib.hasPrefix s [120, 39] = true → readOf s = none) {n : Int} {ok : Bool} (h : (ok = true ∧ IsNum s n) ∨ (ok = false ∧ ∀ v, ¬ IsNum s v)) : (readOf s).isSome = ok ∧ ∀ y, readOf s = some y → ⟨1, n, []⟩ = y := by
  cases h3 : Lib.hasPrefix s [120, 39] with
  | true =>
    rw [hx h3]
    rcases h with ⟨rfl, hn⟩ | ⟨rfl, _⟩
    · obtain ⟨c, r, rfl, hc⟩ := num_head hn
      simp [Lib.hasPrefix, List.isPrefixOf] at h3
      exact absurd h3.1.symm hc
    · exact ⟨rfl, fun y hy => by cases hy⟩
  | false =>
    rcases read_num h1 h2 h3 with ⟨v, hv, he⟩ | ⟨hno, he⟩
    · rw [he]
      rcases h with ⟨rfl, hn⟩ | ⟨rfl, hno⟩
      · have : n = v := by
          have a := atoi_itoa n hn.2.1 hn.2.2
          have b := atoi_itoa v hv.2.1 hv.2.2
          rw [hn.1] at a
          rw [hv.1, a] at b
          injection b
        subst this
        exact ⟨rfl, fun y hy => Option.some.inj hy⟩
      · exact absurd hv (hno v)
    · rw [he]
      rcases h with ⟨rfl, hn⟩ | ⟨rfl, _⟩
      · exact absurd hn (hno n)
      · exact ⟨rfl, fun y hy => by cases hy⟩
set_option maxRecDepth 100000 in
set_option maxHeartbeats 1000000 in
theorem rword_any (s : List UInt8) (hs : s.length ≤ 1048576) (w : World) : Calls Tryd.prog 14 #[.string ⟨s.toArray⟩] w (WordEnd s w) := by
  have hT := fun c W => rtruth_any c W
  by_cases h1 : s = wTrue
  · have q1 : (s == [116, 114, 117, 101]) = true := by simp [h1, wTrue]
    have HR : Hid (readOf s = some (Val.truth true)) := hidV (by rw [h1]; exact read_3)
    clear h1
    go_enter Tryd.func14, Tryd.ntmps14
    go_wp2_with (go_at_call 26; refine (hT true _).mono ?_; rintro e w1 ⟨rfl, hb1⟩; have hB := boxed_new hb1; obtain ⟨⟨c0, c1, c2⟩, hf⟩ := hB.facts; have f0 := hf 0; have f1 := hf 1; have f2 := hf 2; simp only [Val.v, Val.truth])
    refine ret_read (x := Val.truth true) rfl rfl rfl rfl (set_box hB (Val.truth true)) ⟨Val.truth true, by rw [HR.out]; rfl, (fun y hy => by rw [HR.out] at hy; exact Option.some.inj hy), ?_⟩
    exact below_set3 (((Below.refl _ w).alloc (Nat.le_refl _) _).trans (hb1.mono (by simp))) (Nat.le_refl _)
  have q1 : (s == [116, 114, 117, 101]) = false := by simpa [wTrue] using h1
  by_cases h2 : s = wFalse
  · have q2 : (s == [102, 97, 108, 115, 101]) = true := by simp [h2, wFalse]
    have HR : Hid (readOf s = some (Val.truth false)) := hidV (by rw [h2]; exact (by decide +kernel : readOf wFalse = some (Val.truth false)))
    clear h1 h2
    go_enter Tryd.func14, Tryd.ntmps14
    go_wp2_with (go_at_call 26; refine (hT false _).mono ?_; rintro e w1 ⟨rfl, hb1⟩; have hB := boxed_new hb1; obtain ⟨⟨c0, c1, c2⟩, hf⟩ := hB.facts; have f0 := hf 0; have f1 := hf 1; have f2 := hf 2; simp only [Val.v, Val.truth])
    refine ret_read (x := Val.truth false) rfl rfl rfl rfl (set_box hB (Val.truth false)) ⟨Val.truth false, by rw [HR.out]; rfl, (fun y hy => by rw [HR.out] at hy; exact Option.some.inj hy), ?_⟩
    exact below_set3 (((Below.refl _ w).alloc (Nat.le_refl _) _).trans (hb1.mono (by simp))) (Nat.le_refl _)
  have q2 : (s == [102, 97, 108, 115, 101]) = false := by simpa [wFalse] using h2
  clear hT
  have hDec := fun W => rdec_any s hs W
  have HD : Hid ((Lib.hasPrefix s [120, 39] = true → readOf s = none) → ∀ (n : Int) (ok : Bool), ((ok = true ∧ IsNum s n) ∨ (ok = false ∧ ∀ v, ¬ IsNum s v)) → (readOf s).isSome = ok ∧ ∀ y, readOf s = some y → ⟨1, n, []⟩ = y) := hidV fun hx n ok h => dec_read h1 h2 hx h
  clear h1 h2
  have fin : ∀ (x : Val) (w1 : World), Below (w.alloc (Val.box ⟨0, 0, []⟩)).heap.size (w.alloc (Val.box ⟨0, 0, []⟩)) w1 → Below w.heap.size w (((w1.setCell ⟨w.heap.size, 0, none⟩ (.int .i64 x.t)).setCell ⟨w.heap.size, 1, none⟩ (.int .i64 x.n)).setCell ⟨w.heap.size, 2, none⟩ (.string ⟨x.b.toArray⟩)) := fun x w1 hb1 => below_set3 (((Below.refl _ w).alloc (Nat.le_refl _) _).trans (hb1.mono (by simp))) (Nat.le_refl _)
  by_cases hl : 3 ≤ s.length
  · have hl' : (3 : Int) ≤ (s.length : Int) := by omega
    have hcut : (⟨s.toArray⟩ : ByteArray).extract 0 2 = ⟨(s.take 2).toArray⟩ := cut_front s 2
    by_cases hp : s.take 2 = [120, 39]
    · have q3 : (s.take 2 == [120, 39]) = true := by simp [hp]
      obtain ⟨m, c, rfl⟩ : ∃ m c, s = 120 :: 39 :: (m ++ [c]) := by
        have e := List.take_append_drop 2 s
        rw [hp] at e
        have hd : s.drop 2 ≠ [] := by
          intro h
          have := congrArg List.length h
          simp at this
          omega
        exact ⟨(s.drop 2).dropLast, (s.drop 2).getLast hd, by rw [List.dropLast_concat_getLast]; exact e.symm⟩
      clear hp q3
      by_cases hc : c = 39
      · subst hc
        have HR : Hid (readOf (120 :: 39 :: (m ++ [39])) = (unhex m).bind fun t => if t.length ≤ 256 then some ⟨2, 0, t⟩ else none) := hidV (read_hex m)
        have hU := fun W => runhex_any m W (by simp at hs; omega)
        have hUl : ∀ t, unhex m = some t → m.length = 2 * t.length := fun t h => unhex_even _ m t (Nat.le_refl _) h
        obtain ⟨S, hS⟩ : ∃ S, S = 120 :: 39 :: (m ++ [39]) := ⟨_, rfl⟩
        have hSl : S.length = m.length + 3 := by rw [hS]; simp
        have hcut2 : (⟨S.toArray⟩ : ByteArray).extract 2 (m.length + 2) = ⟨m.toArray⟩ := by
          apply ByteArray.ext
          rw [ByteArray.data_extract, hS]
          simp
        have e1 : (⟨S.toArray⟩ : ByteArray)[m.length + 2]'(by show m.length + 2 < S.toArray.size; simp; omega) = 39 := by subst hS; simp [ByteArray.getElem_eq_getElem_data]
        have q3 : (S.take 2 == [120, 39]) = true := by simp [hS]
        rw [← hS] at hs q1 q2 hDec HD hl hl' hcut HR ⊢
        clear hS HD hDec
        go_enter Tryd.func14, Tryd.ntmps14
        go_wp2_with (go_at_call 27; refine (hU _).mono ?_; rintro e w1 ⟨t, rfl, ht, hb1⟩; have hB := boxed_new hb1; obtain ⟨⟨c0, c1, c2⟩, hf⟩ := hB.facts; have f0 := hf 0; have f1 := hf 1; have f2 := hf 2; have hlt := (Array.getElem?_eq_some_iff.1 hB).1)
        · rename_i hsm
          obtain ⟨u, hu⟩ := Option.isSome_iff_exists.1 hsm
          obtain rfl := ht u hu
          have ha : (readOf S).isSome = decide ((t.length : Int) ≤ 256) := by
            rw [HR.out, hu]
            simp only [Option.bind_some]
            by_cases h : t.length ≤ 256
            · rw [if_pos h, decide_eq_true (by omega)]; rfl
            · rw [if_neg h, decide_eq_false (by omega)]; rfl
          have hb : ∀ y, readOf S = some y → ⟨2, 0, t⟩ = y := fun y hy => by
            rw [HR.out, hu] at hy
            simp only [Option.bind_some] at hy
            split at hy
            · exact Option.some.inj hy
            · cases hy
          exact ret_read (x := ⟨2, 0, t⟩) rfl rfl rfl rfl (set_box hB ⟨2, 0, t⟩) ⟨_, by rw [ha], hb, fin ⟨2, 0, t⟩ w1 hb1⟩
        · rename_i hsm
          have hu : unhex m = none := by
            cases h : unhex m with
            | none => rfl
            | some u => rw [h] at hsm; simp at hsm
          have hr : readOf S = none := by rw [HR.out, hu]; rfl
          exact ret_read (x := ⟨2, 0, t⟩) rfl rfl rfl rfl (set_box hB ⟨2, 0, t⟩) ⟨_, by rw [hr]; rfl, (fun y hy => by rw [hr] at hy; cases hy), fin ⟨2, 0, t⟩ w1 hb1⟩
      · have HX : Hid (Lib.hasPrefix (120 :: 39 :: (m ++ [c])) [120, 39] = true → readOf (120 :: 39 :: (m ++ [c])) = none) := hidV fun _ => read_unhex (.inr ⟨m, c, rfl, hc⟩)
        obtain ⟨S, hS⟩ : ∃ S, S = 120 :: 39 :: (m ++ [c]) := ⟨_, rfl⟩
        have hSl : S.length = m.length + 3 := by rw [hS]; simp
        have e1 : (⟨S.toArray⟩ : ByteArray)[m.length + 2]'(by show m.length + 2 < S.toArray.size; simp; omega) = c := by subst hS; simp [ByteArray.getElem_eq_getElem_data]
        have hcn : ((c.toNat : Int) == 39) = false := by
          have : c.toNat ≠ 39 := fun h => hc (UInt8.toNat_inj.1 h)
          simp
          omega
        have q3 : (S.take 2 == [120, 39]) = true := by simp [hS]
        rw [← hS] at hs q1 q2 hDec HD hl hl' hcut HX ⊢
        clear hS
        go_enter Tryd.func14, Tryd.ntmps14
        go_wp2_with (go_at_call 28; refine (hDec _).mono ?_; rintro e w1 ⟨n, ok, rfl, hok, hb1⟩; have hB := boxed_new hb1; obtain ⟨⟨c0, c1, c2⟩, hf⟩ := hB.facts; have f0 := hf 0; have f1 := hf 1; have f2 := hf 2; have hlt := (Array.getElem?_eq_some_iff.1 hB).1)
        obtain ⟨ha, hb⟩ := HD.out HX.out n ok hok
        exact ret_read (x := ⟨1, n, []⟩) rfl rfl rfl rfl (set_box hB ⟨1, n, []⟩) ⟨_, by rw [ha], hb, fin ⟨1, n, []⟩ w1 hb1⟩
    · have q3 : (s.take 2 == [120, 39]) = false := by simpa using hp
      have HX : Hid (Lib.hasPrefix s [120, 39] = true → readOf s = none) := hidV fun h => by
        obtain ⟨t, rfl⟩ := List.isPrefixOf_iff_prefix.1 h
        simp at hp
      clear hp
      go_enter Tryd.func14, Tryd.ntmps14
      go_wp2_with (go_at_call 28; refine (hDec _).mono ?_; rintro e w1 ⟨n, ok, rfl, hok, hb1⟩; have hB := boxed_new hb1; obtain ⟨⟨c0, c1, c2⟩, hf⟩ := hB.facts; have f0 := hf 0; have f1 := hf 1; have f2 := hf 2; have hlt := (Array.getElem?_eq_some_iff.1 hB).1)
      obtain ⟨ha, hb⟩ := HD.out HX.out n ok hok
      exact ret_read (x := ⟨1, n, []⟩) rfl rfl rfl rfl (set_box hB ⟨1, n, []⟩) ⟨_, by rw [ha], hb, fin ⟨1, n, []⟩ w1 hb1⟩
  · have hl' : (s.length : Int) < 3 := by omega
    have HX : Hid (Lib.hasPrefix s [120, 39] = true → readOf s = none) := hidV fun h => by
      obtain ⟨t, rfl⟩ := List.isPrefixOf_iff_prefix.1 h
      cases t with
      | nil => exact read_unhex (.inl rfl)
      | cons => simp at hl
    go_enter Tryd.func14, Tryd.ntmps14
    go_wp2_with (go_at_call 28; refine (hDec _).mono ?_; rintro e w1 ⟨n, ok, rfl, hok, hb1⟩; have hB := boxed_new hb1; obtain ⟨⟨c0, c1, c2⟩, hf⟩ := hB.facts; have f0 := hf 0; have f1 := hf 1; have f2 := hf 2; have hlt := (Array.getElem?_eq_some_iff.1 hB).1)
    obtain ⟨ha, hb⟩ := HD.out HX.out n ok hok
    exact ret_read (x := ⟨1, n, []⟩) rfl rfl rfl rfl (set_box hB ⟨1, n, []⟩) ⟨_, by rw [ha], hb, fin ⟨1, n, []⟩ w1 hb1⟩
end Go.Proofs.YtkmfopdklohgnaaDoor
