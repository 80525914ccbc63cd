/- The law WireJoins, walked. -/
import Derived.Test.YtjnmgnnaefiegabDoorNums
import Derived.Deep.RegionWith
namespace Go.Proofs.YtjnmgnnaefiegabDoor
open Go.RowKit

abbrev sv (s : List UInt8) : Value := .string ⟨s.toArray⟩
theorem elem_str : Elem Tryd.prog 33 9 16 := by
  refine ⟨Tryd.underlying33, ?_⟩
  obtain ⟨i0, hi, hz0, hz1, hz2⟩ := info_parts (show (Tryd.prog.info? 9).map (fun i => (i.zero, i.size, i.bytes)) = some (some (.string ⟨#[]⟩), 1, 16) by kernel_rfl)
  exact ⟨i0, _, hi, hz0, hz1, hz2, rfl⟩
/-- A source: texts that lie somewhere. -/
theorem src_ss {P : Program} (w : World) {tx e' : TypeId} (hk : P.underlying tx = some (.slice e')) {ao : Option Addr} {ss : List (List UInt8)} (hb : Ss w ao ss) (c : Nat) : Src P 1 tx (.slice ao ss.length c) (ss.map sv).length (ss.map sv) w := by
  rw [List.length_map]
  rcases hb with rfl | ⟨b, off, rfl, hc⟩
  · cases ao with
    | none => exact Src.ofNil w hk c
    | some a => exact Src.ofSlice w hk a 0 c [] rfl (fun j u h => by simp at h) (fun u h => by cases h)
  · refine Src.ofSlice w hk _ _ c _ (by simp) (fun j u hu => ?_) (fun u hu => ?_)
    · have hadd : (⟨b, off, none⟩ : Addr).add j = ⟨b, off + j, none⟩ := by unfold Addr.add; split <;> simp_all
      rw [hadd]
      rw [List.getElem?_map] at hu
      obtain ⟨x, hx, rfl⟩ := Option.map_eq_some_iff.1 hu
      obtain ⟨hj, rfl⟩ := List.getElem?_eq_some_iff.1 hx
      exact hc j hj
    · obtain ⟨_, _, rfl⟩ := List.mem_map.1 hu; rfl
/-- Texts in a row of one's own. -/
theorem Own.ss {w : World} {base : Nat} {e : TypeId} {v : Value} {ss : List (List UInt8)} (h : Own w base e v (ss.map sv)) : ∃ ao cap, v = .slice ao ss.length cap ∧ Ss w ao ss ∧ v.ownBlock = ao.map (·.block) := by
  obtain ⟨ao, cap, hv, h1, h2, h3, h4, h5⟩ := h.form
  rw [List.length_map] at hv h1
  refine ⟨ao, cap, hv, ?_, h3⟩
  cases ao with
  | none => left; have := h4 rfl; exact List.eq_nil_of_length_eq_zero (by omega)
  | some b =>
    obtain ⟨g, rfl, hc⟩ := h5 b rfl
    refine .inr ⟨g, 0, rfl, fun j hj => ?_⟩
    rw [Nat.zero_add]
    exact hc j _ (by simp [List.getElem?_eq_getElem hj])
theorem Ss.chg {w w' : World} {ao : Option Addr} {ss : List (List UInt8)} {S : Nat → Prop} (h : Ss w ao ss) (k : Chg w w' S) (hS : ∀ g, ao.map (·.block) = some g → ¬ S g) : Ss w' ao ss := by
  rcases h with h | ⟨b, off, rfl, hc⟩
  · exact .inl h
  · exact .inr ⟨b, off, rfl, fun j hj => k.cell (hc j hj) (hS b rfl)⟩

/-- A call of Text of a Writer that is new, whatever the texts. -/
theorem text_end (p h : Nat) (ao : Option Addr) (n cap : Nat) (ss : List (List UInt8)) (w : World) (H : WrE w p h (.slice none 0 0) 0) (hn : ss.length = n) (hm : n ≤ 8796093022208)
    (hS : Ss w ao ss) (hne : ∀ g, ao.map (·.block) = some g → g ≠ h) (hrM : ∀ j (h : j < ss.length), ss[j].length ≤ 9223372036854775807) :
    Calls Tryd.prog 11 #[.pointer (some ⟨p, 0, none⟩), .slice ao n cap] w fun e w' => ∃ (c : Int) (v' : Value), e = .returned (.int .i64 c) ∧ Chg w w' (fun k => k = h) ∧ WrE w' p h v' 0 ∧
      (c = 6 ∨ (c = 0 ∧ OwnB w' w.heap.size v' (texts ss) ∧ (∀ j (h : j < ss.length), ss[j].length ≤ 65535) ∧ (texts ss).length ≤ 1048576)) := by
  by_cases hall : ∀ j (h : j < ss.length), ss[j].length ≤ 65535
  · by_cases hroom : (texts ss).length ≤ 1048576
    · refine (text_ok p h w.heap.size (.slice none 0 0) [] ao n cap ss w H (Own.nil _ _ _) (Nat.le_refl _) (by decide) hn (by omega) (fun w' hc => hS.chg hc (fun g hg => ?_)) hall (by simpa using hroom)).mono ?_
      · intro e
        rcases e with e | e
        · exact hne g hg e
        · cases e
      · rintro e w' ⟨v', rfl, H', hO', hs⟩
        refine ⟨0, v', rfl, hs.1.mono (fun i _ e => ?_), H', .inr ⟨rfl, by simpa using hO', hall, hroom⟩⟩
        rcases e with e | e
        · exact e
        · cases e
    · refine (text_full p h none 0 0 ao n cap ss w H (by decide) hn hm hS hall (by omega)).mono ?_
      rintro e w' ⟨rfl, H', hc⟩
      exact ⟨6, _, rfl, hc, H', .inl rfl⟩
  · have hex : ∃ J, ∃ hJ : J < ss.length, 65535 < ss[J].length ∧ ∀ j (h : j < J), (ss[j]'(by omega)).length ≤ 65535 := by
      clear hS hrM
      have key : ∀ m, m ≤ ss.length → (∀ j (h : j < ss.length), j < m → ss[j].length ≤ 65535) ∨ ∃ J, ∃ hJ : J < ss.length, 65535 < ss[J].length ∧ ∀ j (h : j < J), (ss[j]'(by omega)).length ≤ 65535 := by
        intro m
        induction m with
        | zero => intro _; exact .inl (fun _ _ h => by omega)
        | succ m ih =>
          intro hmm
          rcases ih (by omega) with h | h
          · by_cases hs : (ss[m]'(by omega)).length ≤ 65535
            · left
              intro j hj hjm
              by_cases e : j = m
              · subst e; exact hs
              · exact h j hj (by omega)
            · exact .inr ⟨m, by omega, by omega, fun j hj => h j (by omega) hj⟩
          · exact .inr h
      rcases key ss.length (Nat.le_refl _) with h | h
      · exact absurd (fun j hj => h j hj hj) hall
      · exact h
    obtain ⟨J, hJ, hJb, hJl⟩ := hex
    refine (text_big p h none 0 0 ao n cap ss w H (by decide) hn hm hS J hJ hJb (hrM J hJ) hJl).mono ?_
    rintro e w' ⟨rfl, H', hc⟩
    exact ⟨6, _, rfl, hc, H', .inl rfl⟩

attribute [local go_sem ↓] Go.wp_at_zero Go.wp_at_succ
set_option maxHeartbeats 8000000 in
set_option maxRecDepth 100000 in
theorem wireJoins_walk (aL aM : Option Addr) (nL cL nM cM : Nat) (ls ms : List (List UInt8)) (w : World)
    (hlL : ls.length = nL) (hlM : ms.length = nM) (hmL : nL * 16 ≤ 140737488351232) (hmM : nM * 16 ≤ 140737488351232)
    (hL : Ss w aL ls) (hM : Ss w aM ms) (hrL : ∀ j (h : j < ls.length), ls[j].length ≤ 9223372036854775807) (hrM : ∀ j (h : j < ms.length), ms[j].length ≤ 9223372036854775807) (ht : Tab w) :
    Calls Tryd.prog 5 #[.slice aL nL cL, .slice aM nM cM] w fun e w' => e = .returned (.bool true) ∧ Below w.heap.size w w' := by
  go_enter Tryd.func5, Tryd.ntmps5
  go_wp2_with fail
  refine (newWriter_any w).mono ?_
  rintro e w1 ⟨rfl, hw1⟩
  have H1 := newWriter_wr w
  rw [← hw1] at H1
  have hz1 : w1.heap.size = w.heap.size + 2 := by rw [hw1]; simp
  have hb1 : Below w.heap.size w w1 := by rw [hw1]; exact ((Below.refl _ _).alloc (Nat.le_refl _) _).alloc (by simp) _
  clear hw1
  go_wp2_with fail
  refine (newWriter_any w1).mono ?_
  rintro e w2 ⟨rfl, hw2⟩
  have G2 := newWriter_wr w1
  have hc2 : Chg w1 w2 (fun _ => False) := by rw [hw2]; exact (Chg.alloc _ _ _).trans (Chg.alloc _ _ _) (fun _ _ e => e)
  rw [← hw2] at G2
  have H2 := H1.chg hc2 id id
  have hz2 : Hid (w2.heap.size = w.heap.size + 4) := hid (by rw [hw2]; simp [hz1])
  have hb2 : Below w.heap.size w w2 := hb1.trans (hc2.below hb1.size (fun i e => e.elim))
  rw [hz1] at G2 ⊢
  clear hw2 hc2 H1 hb1 hz1
  have hbn : Below w2.heap.size w2 (w2.alloc (.cells #[] 9)) := (Below.refl _ _).alloc (Nat.le_refl _) _
  have hO3 : Own (w2.alloc (.cells #[] 9)) w2.heap.size 9 (.slice (some ⟨w2.heap.size, 0, none⟩) 0 0) [] := World.ownsRow_lit w2 #[] 0 (Nat.le_refl _) (Nat.zero_le _) rfl
  have hS3 := src_ss (P := Tryd.prog) _ Tryd.underlying33 (hL.keep (below_keep (hb2.trans (hbn.mono hb2.size)))) cL
  rw [hlL] at hS3
  go_wp2_with (at_builtin; refine wpList_app _ rfl (.tmp 15) (.tmp 16) _ _ rfl elem_str w2.heap.size _ _ rfl hO3 _ rfl (ls.map sv) hS3 (by simp only [List.length_map, List.length_nil, hlL]; unfold maxLen; omega) (by simp only [List.length_map, List.length_nil, hlL]; omega) (by simp) ?_)
  intro v3 w3 ho3 hs3
  replace ho3 : Own w3 w2.heap.size 9 v3 (ls.map sv) := ho3
  have hb3 : Below w2.heap.size w2 w3 := hbn.trans (hs3.below (by simp) (fun k h => (hO3.lt k h).1))
  have hlt3 := ho3.lt
  obtain ⟨ao3, cap3, hv3, hSs3, hbk3⟩ := Own.ss ho3
  rw [hlL] at hv3
  subst hv3
  have H3 := H2.chg (Chg.of_below (S := fun _ => False) hb3) id id
  have G3 := G2.chg (Chg.of_below (S := fun _ => False) hb3) id id
  have hbw3 := hb2.trans (hb3.mono hb2.size)
  have hne3 : ∀ g, ao3.map (·.block) = some g → g ≠ w.heap.size := fun g hg => by have := (hlt3 g (by rw [hbk3]; exact hg)).1; have := hz2.out; omega
  have hz3 : w.heap.size + 4 ≤ w3.heap.size := by have := hb3.size; have := hz2.out; omega
  clear ho3 hs3 hO3 hS3 hbn hlt3 hb3 H2 G2 hz2
  go_wp2_with fail
  refine (text_end (w.heap.size + 1) w.heap.size ao3 nL cap3 ls w3 H3 hlL (by omega) hSs3 hne3 hrL).mono ?_
  rintro e w4 ⟨c4, v4, rfl, hc4, H4, hres4⟩
  have G4 := G3.chg hc4 (by show ¬ (w.heap.size + 2 + 1 = w.heap.size); omega) (by show ¬ (w.heap.size + 2 = w.heap.size); omega)
  have hbw4 := hbw3.trans (hc4.below hbw3.size (fun i e => by omega))
  have hz4 := Nat.le_trans hz3 hc4.size
  have hlt4 : ∀ k, v4.ownBlock = some k → c4 = 0 → w.heap.size + 4 ≤ k := fun k hk h0 => by
    rcases hres4 with h | ⟨_, h, _⟩
    · omega
    · have := (h.lt k hk).1; omega
  clear H3 G3 hSs3 hne3 hbk3
  have hbn : Below w4.heap.size w4 (w4.alloc (.cells #[] 9)) := (Below.refl _ _).alloc (Nat.le_refl _) _
  have hO5 : Own (w4.alloc (.cells #[] 9)) w4.heap.size 9 (.slice (some ⟨w4.heap.size, 0, none⟩) 0 0) [] := World.ownsRow_lit w4 #[] 0 (Nat.le_refl _) (Nat.zero_le _) rfl
  have hS5 := src_ss (P := Tryd.prog) _ Tryd.underlying33 (hM.keep (below_keep (hbw4.trans (hbn.mono hbw4.size)))) cM
  rw [hlM] at hS5
  go_wp2_with (first | (go_at_call 7; refine (num_any _ _).mono ?_; rintro e w' ⟨rfl, hw⟩; replace hw := hw.symm; subst hw) | (at_builtin; refine wpList_app _ rfl (.tmp 21) (.tmp 22) _ _ rfl elem_str _ _ _ rfl hO5 _ rfl (ms.map sv) hS5 (by simp only [List.length_map, List.length_nil, hlM]; unfold maxLen; omega) (by simp only [List.length_map, List.length_nil, hlM]; omega) (by simp) ?_))
  intro v5 w5 ho5 hs5
  replace ho5 : Own w5 w4.heap.size 9 v5 (ms.map sv) := ho5
  have hb5 : Below w4.heap.size w4 w5 := hbn.trans (hs5.below (by simp) (fun k h => (hO5.lt k h).1))
  have hlt5 := ho5.lt
  obtain ⟨ao5, cap5, hv5, hSs5, hbk5⟩ := Own.ss ho5
  rw [hlM] at hv5
  subst hv5
  have H5 := H4.chg (Chg.of_below (S := fun _ => False) hb5) id id
  have G5 := G4.chg (Chg.of_below (S := fun _ => False) hb5) id id
  have hres5 : c4 = 6 ∨ (c4 = 0 ∧ OwnB w5 w3.heap.size v4 (texts ls) ∧ (∀ j (h : j < ls.length), ls[j].length ≤ 65535) ∧ (texts ls).length ≤ 1048576) := by
    rcases hres4 with h | ⟨h1, h2, h3⟩
    · exact .inl h
    · exact .inr ⟨h1, Own.below h2 hb5, h3⟩
  have hbw5 := hbw4.trans (hb5.mono hbw4.size)
  have hne5 : ∀ g, ao5.map (·.block) = some g → g ≠ w.heap.size + 2 := fun g hg => by have := (hlt5 g (by rw [hbk5]; exact hg)).1; omega
  have hz5 : w.heap.size + 4 ≤ w5.heap.size := Nat.le_trans hz4 hb5.size
  clear ho5 hs5 hO5 hS5 hbn hlt5 hb5 H4 G4 hres4 hbk5 hc4
  have R5 : Hid (c4 = 6 ∨ (c4 = 0 ∧ OwnB w5 w3.heap.size v4 (texts ls) ∧ (∀ j (h : j < ls.length), ls[j].length ≤ 65535) ∧ (texts ls).length ≤ 1048576)) := hres5
  have L4 : Hid (∀ k, v4.ownBlock = some k → c4 = 0 → w.heap.size + 4 ≤ k) := hlt4
  clear hres5 hlt4
  go_wp2_with fail
  refine (text_end (w.heap.size + 2 + 1) (w.heap.size + 2) ao5 nM cap5 ms w5 G5 hlM (by omega) hSs5 hne5 hrM).mono ?_
  rintro e w6 ⟨c6, v6, rfl, hc6, G6, hres6⟩
  have H6 := H5.chg hc6 (by show ¬ (w.heap.size + 1 = w.heap.size + 2); omega) (by show ¬ (w.heap.size = w.heap.size + 2); omega)
  have hbw6 := hbw5.trans (hc6.below hbw5.size (fun i e => by omega))
  have ht6 := ht.keep (below_keep hbw6)
  have hz6 := Nat.le_trans hz5 hc6.size
  have hlt6 : Hid (∀ k, v6.ownBlock = some k → c6 = 0 → w.heap.size + 4 ≤ k) := hid (fun k hk h0 => by
    rcases hres6 with h | ⟨_, h, _⟩
    · omega
    · have := (h.lt k hk).1; omega)
  have R6 : Hid _ := hid hres6
  clear hres6 hSs5 hne5 G5 H5
  by_cases hc40 : c4 = 0
  case neg =>
    have hc4 : c4 = 6 := by rcases R5.out with h | ⟨h, _⟩; exact h; exact absurd h hc40
    subst hc4
    clear R5 R6 L4 hlt6 hL hM hrL hrM
    go_wp2_with (first | (go_at_call 7; refine (num_any _ _).mono ?_; rintro e w' ⟨rfl, hw⟩; replace hw := hw.symm; subst hw) | (go_at_call 8; refine (knows_any _ ht6).mono ?_; rintro e w' ⟨rfl, hb3⟩))
    go_ret
    exact ⟨rfl, hbw6.trans (hb3.mono hbw6.size)⟩
  case pos =>
    subst hc40
    by_cases hc60 : c6 = 0
    case neg =>
      have hc6' : c6 = 6 := by rcases R6.out with h | ⟨h, _⟩; exact h; exact absurd h hc60
      subst hc6'
      clear R5 R6 L4 hlt6 hL hM hrL hrM
      go_wp2_with (first | (go_at_call 7; refine (num_any _ _).mono ?_; rintro e w' ⟨rfl, hw⟩; replace hw := hw.symm; subst hw) | (go_at_call 8; refine (knows_any _ ht6).mono ?_; rintro e w' ⟨rfl, hb3⟩))
      go_ret
      exact ⟨rfl, hbw6.trans (hb3.mono hbw6.size)⟩
    case pos =>
      subst hc60
      obtain ⟨_, hO5, hshL, hlenL⟩ : True ∧ OwnB w5 w3.heap.size v4 (texts ls) ∧ (∀ j (h : j < ls.length), ls[j].length ≤ 65535) ∧ (texts ls).length ≤ 1048576 := by
        rcases R5.out with h | ⟨_, h⟩
        · omega
        · exact ⟨trivial, h⟩
      obtain ⟨_, hO6, hshM, hlenM⟩ : True ∧ OwnB w6 w5.heap.size v6 (texts ms) ∧ (∀ j (h : j < ms.length), ms[j].length ≤ 65535) ∧ (texts ms).length ≤ 1048576 := by
        rcases R6.out with h | ⟨_, h⟩
        · omega
        · exact ⟨trivial, h⟩
      have hO5' : OwnB w6 w3.heap.size v4 (texts ls) := Own.chg hO5 hc6 (fun g hg e => by have := L4.out g hg rfl; omega)
      have SL : Hid (∀ j (h : j < ls.length), ls[j].length ≤ 65535) := hshL
      have SM : Hid (∀ j (h : j < ms.length), ms[j].length ≤ 65535) := hshM
      clear R5 R6 L4 hlt6 hO5 hc6 hshL hshM
      go_wp2_with (first | (go_at_call 7; refine (num_any _ _).mono ?_; rintro e w' ⟨rfl, hw⟩; replace hw := hw.symm; subst hw))
      refine (bytes_any _ _ _ v4 _ w6 H6 hO5' hlenL).mono ?_
      rintro e w7 ⟨rfl, hO7, hb7⟩
      have G7 := G6.chg (Chg.of_below (S := fun _ => False) hb7) id id
      have hO6' : OwnB w7 w5.heap.size v6 (texts ms) := Own.below hO6 hb7
      have hbw7 := hbw6.trans (hb7.mono hbw6.size)
      clear H6 G6 hO6 hO5' hb7
      go_wp2_with fail
      refine (bytes_any _ _ _ v6 _ w7 G7 hO6' hlenM).mono ?_
      rintro e w8 ⟨rfl, hO8, hb8⟩
      have hO7' : OwnB w8 w6.heap.size (.slice (some ⟨w6.heap.size, 0, none⟩) (texts ls).length (texts ls).length) (texts ls) := Own.below hO7 hb8
      have hbw8 := hbw7.trans (hb8.mono hbw7.size)
      have hB8 : Bs w8 (some ⟨w7.heap.size, 0, none⟩) (texts ms) := by
        obtain ⟨ao2, cap2, hv2, _, _, hB2, _, _⟩ := Own.bs hO8
        simp only [Value.slice.injEq] at hv2
        rw [hv2.1]; exact hB2
      have hS8 := src_bs (P := Tryd.prog) w8 Tryd.underlying23 hB8 (texts ms).length
      have hsz6 : w.heap.size ≤ w6.heap.size := hbw6.size
      clear G7 hO6' hO7 hO8 hb8 hB8
      have H7 : Own w8 w6.heap.size 5 (.slice (some ⟨w6.heap.size, 0, none⟩) (texts ls).length (texts ls).length) ((texts ls).map bv) := hO7'
      go_wp2_with (at_builtin; refine wpList_app _ rfl _ _ _ _ rfl elem_u8 w6.heap.size _ _ rfl H7 _ rfl ((texts ms).map bv) hS8 (by simp only [List.length_map]; unfold maxLen; omega) (by simp only [List.length_map]; omega) (by have := hbw8.size; have := hO7'.lt _ rfl; omega) ?_)
      intro v9 w9 hO9 hs9
      rw [← List.map_append] at hO9
      have hbw9 : Below w.heap.size w w9 := hbw8.trans (hs9.below hbw8.size (fun k h => by have := (H7.lt k h).1; omega))
      obtain ⟨ao9, cap9, hv9, hle9, hmx9, hB9, _, _⟩ := Own.bs hO9
      obtain ⟨all, hall⟩ : ∃ all, all = texts ls ++ texts ms := ⟨_, rfl⟩
      have hla : all.length ≤ 2097152 := by rw [hall, List.length_append]; omega
      rw [← hall] at hv9 hB9
      have Hall : Hid (all = texts ls ++ texts ms) := hall
      subst hv9
      clear hs9 hO9 hS8 H7 hO7' hall hle9 hmx9
      go_wp2_with fail
      refine (rnew_any ao9 all.length cap9 all w9 rfl (by omega) hB9).mono ?_
      rintro e w10 ⟨hh, rfl, hhz, hR10, hb10'⟩
      have hb10 : Below w.heap.size w w10 := hbw9.trans (hb10'.mono hbw9.size)
      have hhh : w.heap.size ≤ hh := by have := hbw9.size; omega
      rw [Hall.out] at hR10
      generalize w9.heap.size = gg at hR10
      clear hb10' hB9 hla hhz Hall
      go_wp2
      go_loopw [10] (fun i wr => ∃ (k : Nat), k ≤ nL ∧ i = .int .i64 k ∧ RdS wr (hh + 1) hh gg (texts (ls.drop k) ++ texts ms) 0 ∧ Below w.heap.size w wr) (fun i _ => nL - (intOf i).toNat)
      case atStart => exact ⟨0, Nat.zero_le _, rfl, by simpa using hR10, hb10⟩
      case round =>
        clear hR10 hb10
        obtain ⟨k, hkn, rfl, hR, hb⟩ := hrel
        by_cases hlt : k < nL
        · have hck : ∃ b off, aL = some ⟨b, off, none⟩ ∧ b < w.heap.size ∧ wr.cell? ⟨b, off + k, none⟩ = some (.string ⟨(ls[k]'(by omega)).toArray⟩) := by
            rcases hL with h0 | ⟨b, off, hao, hc⟩
            · subst h0; simp at hlL; omega
            · exact ⟨b, off, hao, World.block_lt_of_cell? _ _ (hc k (by omega)), below_keep hb _ _ (hc k (by omega))⟩
          obtain ⟨b, off, rfl, hbw, hck⟩ := hck
          have hr1 := SL.out k (by omega)
          rw [texts_drop _ _ (by omega), List.append_assoc] at hR
          generalize ls[k]'(by omega) = s at hck hR hr1
          clear hL hM hrL hrM
          go_wp2
          go_region_with (first | (go_at_call 14; refine (rtext_back _ _ _ s _ _ (by exact hR.drew) hr1).mono ?_; rintro e w4 ⟨rfl, hR4, hc4⟩; have hk4 : Chg wr w4 (fun k => k = hh) := (Chg.drew wr _).trans hc4 (fun _ _ e => e); have hck4 := hk4.cell hck (by simp; omega)))
          all_goals
            have hb4 := rd_below hb hhh hk4
            clear hc4 hk4 hck4 hR hb hck
            go_wp2
            go_roundw
            case rel => exact ⟨k + 1, by omega, by go_num, hR4, hb4⟩
            case measure => simp [intOf]; omega
        · have HE : ls.drop k = [] := List.drop_eq_nil_of_le (by omega)
          rw [HE] at hR
          replace hR : RdS wr (hh + 1) hh gg (texts ms) 0 := hR
          clear HE hL hrL
          go_wp2
          go_loopw [11] (fun i wr => ∃ (k : Nat), k ≤ nM ∧ i = .int .i64 k ∧ RdS wr (hh + 1) hh gg (texts (ms.drop k)) 0 ∧ Below w.heap.size w wr) (fun i _ => nM - (intOf i).toNat)
          case atStart => exact ⟨0, Nat.zero_le _, rfl, by simpa using hR, hb⟩
          case round =>
            clear hR hb
            obtain ⟨k, hkn, rfl, hR, hb⟩ := hrel
            by_cases hlt : k < nM
            · have hck : ∃ b off, aM = some ⟨b, off, none⟩ ∧ b < w.heap.size ∧ wr.cell? ⟨b, off + k, none⟩ = some (.string ⟨(ms[k]'(by omega)).toArray⟩) := by
                rcases hM with h0 | ⟨b, off, hao, hc⟩
                · subst h0; simp at hlM; omega
                · exact ⟨b, off, hao, World.block_lt_of_cell? _ _ (hc k (by omega)), below_keep hb _ _ (hc k (by omega))⟩
              obtain ⟨b, off, rfl, hbw, hck⟩ := hck
              have hr1 := SM.out k (by omega)
              rw [texts_drop _ _ (by omega)] at hR
              generalize ms[k]'(by omega) = s at hck hR hr1
              clear hM hrM
              go_wp2
              go_region_with (first | (go_at_call 14; refine (rtext_back _ _ _ s _ _ (by exact hR.drew) hr1).mono ?_; rintro e w4 ⟨rfl, hR4, hc4⟩; have hk4 : Chg wr w4 (fun k => k = hh) := (Chg.drew wr _).trans hc4 (fun _ _ e => e); have hck4 := hk4.cell hck (by simp; omega)))
              all_goals
                have hb4 := rd_below hb hhh hk4
                clear hc4 hk4 hck4 hR hb hck
                go_wp2
                go_roundw
                case rel => exact ⟨k + 1, by omega, by go_num, hR4, hb4⟩
                case measure => simp [intOf]; omega
            · have HE : ms.drop k = [] := List.drop_eq_nil_of_le (by omega)
              rw [HE] at hR
              replace hR : RdS wr (hh + 1) hh gg [] 0 := hR
              have hd : doneOf [] 0 = 0 := rfl
              go_wp2_with fail
              refine (rdone_any _ _ _ [] 0 _ hR).mono ?_
              rintro e w4 ⟨rfl, hw⟩
              subst hw
              rw [hd]
              have ht4 := ht.keep (below_keep hb)
              go_wp2_with (first | (go_at_call 7; refine (num_any _ _).mono ?_; rintro e w' ⟨rfl, hw⟩; subst hw) | (go_at_call 8; refine (knows_any _ ht4).mono ?_; rintro e w' ⟨rfl, hb5⟩))
              go_ret
              exact ⟨rfl, hb.trans (hb5.mono hb.size)⟩
end Go.Proofs.YtjnmgnnaefiegabDoor
