/- Plain: Parse of Print, and Print of Parse. -/
import Derived.Test.YtbjipcpoiiegkaaGreatDoorBQ
namespace Go.Proofs.YtbjipcpoiiegkaaGreatDoor
open Go.RowKit Go.Shelf
theorem ins_back {s : List UInt8} {x : Int × Int} (hs : s.length ≤ 1048576) (h : insS s = some x) : lineS x = s := by
  rcases idx_cases s with hi | ⟨o, hi⟩
  · cases hf : findFrom s 1 with
    | mk n ok =>
      rw [ins_one hi hf] at h
      split at h
      · rename_i q
        cases h
        exact q.2
      · cases h
  · rcases idx_cases (s.drop (o + 1)) with h2 | ⟨o2, h2⟩
    · cases hf : findFrom (s.take o) 1 with
      | mk n ok =>
        by_cases hd : ∃ d, IsNum (s.drop (o + 1)) d
        · obtain ⟨d, hd⟩ := hd
          rw [ins_two hi hs h2 hf (d := d) (ok2 := true) (.inl ⟨rfl, hd⟩)] at h
          split at h
          · rename_i q
            cases h
            exact q.2.2
          · cases h
        · rw [ins_two hi hs h2 hf (d := 0) (ok2 := false) (.inr ⟨rfl, fun v q => hd ⟨v, q⟩⟩)] at h
          rw [if_neg (by simp)] at h
          cases h
    · rw [ins_more hi h2] at h
      cases h
/-- An instruction that has a line. -/
structure GoodI (x : Int × Int) : Prop where
  l : 1 ≤ x.1
  h : x.1 ≤ 53
  a0 : -9223372036854775808 ≤ x.2
  a1 : x.2 ≤ 9223372036854775807
  z : takesN x.1 = 0 → x.2 = 0
theorem good_of {nc nf sl : Nat} {x : Int × Int} (h1 : nc ≤ 32) (h2 : nf ≤ 16) (h3 : sl ≤ 16) (h : insOk nc nf sl x = true) : GoodI x := by
  have r := ins_range h1 h2 h3 h
  simp only [insOk, Bool.and_eq_true, decide_eq_true_eq] at h
  obtain ⟨⟨⟨a, b⟩, c⟩, d⟩ := h
  refine ⟨a, b, r.1, r.2, fun q => ?_⟩
  rw [q] at c d
  simp [boundsN] at c d
  omega
def nameOk (l : List UInt8) : Bool := l ≠ [] && l ≠ wFunc && l.all (fun c => c ≠ 32 && c ≠ 10)
theorem names_ok : ∀ k : Fin 54, 1 ≤ k.1 → nameOk (nameTab.getD k.1 []) = true ∧ findFrom (nameTab.getD k.1 []) 1 = ((k.1 : Int), true) := by decide +kernel
theorem name_ok {n : Int} (h1 : 1 ≤ n) (h2 : n ≤ 53) : nameT n ≠ [] ∧ nameT n ≠ wFunc ∧ No 32 (nameT n) ∧ No 10 (nameT n) ∧ findFrom (nameT n) 1 = (n, true) := by
  have := names_ok ⟨n.toNat, by omega⟩ (by show 1 ≤ n.toNat; omega)
  simp only [nameOk, Bool.and_eq_true, List.all_eq_true, decide_eq_true_eq, ne_eq] at this
  obtain ⟨⟨⟨a, b⟩, c⟩, d⟩ := this
  have e : nameT n = nameTab.getD n.toNat [] := by unfold nameT rowOf; rw [if_pos ⟨h1, h2⟩]
  rw [e]
  refine ⟨a, b, fun x hx => (c x hx).1, fun x hx => (c x hx).2, ?_⟩
  rw [d]
  congr 1
  omega
theorem itoa_no (n : Int) : No 32 (Lib.itoa n) ∧ No 10 (Lib.itoa n) := by
  obtain ⟨c, r, e, _, h⟩ := itoa_head n
  rw [e]
  constructor <;>
  · intro x hx q
    have := h x hx
    subst q
    simp at this
theorem lineS_good {x : Int × Int} (g : GoodI x) : lineS x = if takesN x.1 ≠ 0 then nameT x.1 ++ 32 :: Lib.itoa x.2 else nameT x.1 := by
  obtain ⟨a, _⟩ := name_ok g.l g.h
  unfold lineS
  rw [if_neg a, takes_same]
  split
  · rfl
  · rename_i q
    rw [if_neg (by simpa using g.z (by simpa using q))]
theorem ins_fwd {x : Int × Int} (g : GoodI x) : insS (lineS x) = some x ∧ (cutAt (lineS x) 32).1 ≠ wFunc ∧ No 10 (lineS x) := by
  obtain ⟨a, b, c, d, e⟩ := name_ok g.l g.h
  have hl := lineS_good g
  have hlen := lineS_len x g.a0 g.a1
  obtain ⟨i32, i10⟩ := itoa_no x.2
  by_cases ht : takesN x.1 = 0
  · rw [if_neg (by simpa using ht)] at hl
    have hz := g.z ht
    have hx : (x.1, (0 : Int)) = x := by rw [← hz]
    rw [hl]
    refine ⟨?_, by rw [cut_no c]; exact b, d⟩
    rw [ins_one (idx_no 32 _ c) e, if_pos ⟨rfl, by rw [hx, hl]⟩, hx]
  · rw [if_pos ht] at hl
    rw [hl]
    refine ⟨?_, by rw [cut_app c]; exact b, d.app (No.cons (by decide) i10)⟩
    have hi := idx_app 32 (nameT x.1) (Lib.itoa x.2) c
    have e1 : (nameT x.1 ++ 32 :: Lib.itoa x.2).take (nameT x.1).length = nameT x.1 := by simp
    have e2 : (nameT x.1 ++ 32 :: Lib.itoa x.2).drop ((nameT x.1).length + 1) = Lib.itoa x.2 := by simp
    rw [ins_two (n := x.1) (ok := true) hi (by rw [← hl]; omega) (by rw [e2]; exact idx_no 32 _ i32) (by rw [e1]; exact e) (d := x.2) (ok2 := true) (.inl ⟨rfl, by rw [e2]; exact ⟨rfl, g.a0, g.a1⟩⟩), if_pos ⟨rfl, rfl, hl⟩]
def constL (c : List UInt8) : List UInt8 := wConst ++ 32 :: hexWord c
theorem hexWord_no (c : List UInt8) : No 32 (hexWord c) ∧ No 10 (hexWord c) := by
  have h16 : ∀ k : Fin 16, hexDigits.getD k.1 0 ≠ 32 ∧ hexDigits.getD k.1 0 ≠ 10 := by decide
  have h := word_no ⟨2, 0, c⟩
  have e : wordOf ⟨2, 0, c⟩ = hexWord c := by simp [wordOf]
  rw [e] at h
  refine ⟨h, ?_⟩
  unfold hexWord
  refine (No.app ?_ ?_).app ?_
  · intro x hx; revert x; decide
  · intro x hx
    obtain ⟨y, _, hy⟩ := List.mem_flatMap.1 hx
    have h0 := y.toNat_lt
    simp only [hexOf, List.mem_cons, List.not_mem_nil, or_false] at hy
    rcases hy with rfl | rfl
    · exact (h16 ⟨y.toNat / 16, by omega⟩).2
    · exact (h16 ⟨y.toNat % 16, by omega⟩).2
  · intro x hx; revert x; decide
theorem fits_two {v : Val} : fitsB [v] [2] = true ↔ v.t = 2 ∧ v.right = true := by
  simp [fitsB]
theorem oneV_const {c : List UInt8} (h : c.length ≤ 256) : oneV (hexWord c) 2 = some ⟨2, 0, c⟩ := by
  have e : wordOf ⟨2, 0, c⟩ = hexWord c := by simp [wordOf]
  have hr : readOf (hexWord c) = some ⟨2, 0, c⟩ := by rw [← e]; exact read_word ⟨2, 0, c⟩ (by simp [Val.right, h]) (by simp) (by simp)
  unfold oneV
  rw [if_pos (idx_no 32 _ (hexWord_no c).1), hr]
  simp only [Option.bind_some]
  rw [if_pos (fits_two.2 ⟨rfl, by simp [Val.right, h]⟩)]
theorem oneV_back {s : List UInt8} {v : Val} (h : oneV s 2 = some v) : hexWord v.b = s := by
  unfold oneV at h
  split at h
  · cases hr : readOf s with
    | none => rw [hr] at h; cases h
    | some u =>
      rw [hr] at h
      simp only [Option.bind_some] at h
      split at h
      · rename_i hf
        cases h
        obtain ⟨ht, hR⟩ := fits_two.1 hf
        unfold readOf at hr
        cases hg : guessOf s with
        | none => rw [hg] at hr; cases hr
        | some x =>
          rw [hg] at hr
          simp only [Option.bind_some] at hr
          split at hr
          · rename_i hp
            cases hr
            rw [← hp, print_one _ hR]
            simp [wordOf, ht]
          · cases hr
      · cases h
  · cases h
theorem oneV_nil : oneV [] 2 = none := by
  unfold oneV
  rw [read_nil]
  simp
theorem constT_eq (c : List UInt8) : constT c = constL c ++ [10] := by simp [constT, constL, wConst]
/-- What is read of one line more is printed with one line more. -/
theorem step_back {S T : Scr} {l : List UInt8} (hl : l.length ≤ 1048576) (h : rlStep S l = some T) : printT T = printT S ++ (l ++ [10]) := by
  unfold rlStep at h
  split at h
  · cases ho : headOf (pieces l) with
    | none => rw [ho] at h; cases h
    | some f =>
      rw [ho] at h
      cases h
      have hc := (headOf_small ho).2.2.2
      simp [printT, fnT, hc, head_back ho]
  · split at h
    · rename_i hne
      cases ho : insS l with
      | none => rw [ho] at h; cases h
      | some x =>
        rw [ho] at h
        cases h
        obtain ⟨L, g, hL⟩ := (List.eq_nil_or_concat S.funcs).resolve_left hne
        rw [List.concat_eq_append] at hL
        have ea : addLast S.funcs x = L ++ [g.add x] := by rw [hL]; simp [addLast]
        simp only [printT, ea]
        rw [hL]
        simp [fnT, Fn.add, lineT, ins_back hl ho]
        rfl
    · rename_i hne
      have hf : S.funcs = [] := by simpa using hne
      split at h
      · rename_i hw
        cases ho : oneV (cutAt l 32).2.1 2 with
        | none => rw [ho] at h; cases h
        | some v =>
          rw [ho] at h
          cases h
          have hb := oneV_back ho
          have hm : (cutAt l 32).2.2 = true := by
            cases hm : (cutAt l 32).2.2 with
            | true => rfl
            | false =>
              exfalso
              have : (cutAt l 32).2.1 = [] := by
                unfold cutAt at hm ⊢
                split
                · rfl
                · rename_i q
                  rw [if_neg q] at hm
                  cases hm
              rw [this, oneV_nil] at ho
              cases ho
          have hsp := (cut_split hm).1
          rw [hw, ← hb] at hsp
          simp only [printT, hf, List.flatMap_append, List.flatMap_nil, List.append_nil, List.flatMap_cons]
          rw [constT_eq]
          conv => rhs; rw [hsp]
          rfl
      · cases h
theorem run_back : ∀ (ls : List (List UInt8)) (S T : Scr), (joinL ls).length ≤ 1048576 → runL S ls = some T → printT T = printT S ++ joinL ls
  | [], S, T, _, h => by cases h; simp [joinL]
  | l :: ls, S, T, hl, h => by
    rw [runL_cons] at h
    have e : joinL (l :: ls) = l ++ [10] ++ joinL ls := by simp [joinL]
    rw [e] at hl ⊢
    simp only [List.length_append] at hl
    cases hs : rlStep S l with
    | none => rw [hs] at h; cases h
    | some S' =>
      rw [hs] at h
      rw [run_back ls S' T (by omega) h, step_back (by omega) hs]
      simp
/-- **A text that is a script's is printed as it was read.** -/
theorem parse_print_back {t : List UInt8} {x : Scr} (h : parseS t = (x, 0)) : printS x = t := by
  unfold parseS parseR at h
  by_cases hl : 65536 < t.length
  · rw [if_pos hl] at h
    cases h
  · rw [if_neg hl] at h
    by_cases hr : (linesS t).2 = 0 ∧ (linesS t).1.right = false
    · rw [if_pos hr] at h
      cases h
    · rw [if_neg hr] at h
      have hx : x.right = true := by
        cases hxr : x.right with
        | true => rfl
        | false => exact absurd ⟨by rw [h], by rw [h]; exact hxr⟩ hr
      obtain ⟨ls, e1, e2⟩ := rlRun_back t.length 1 noScr x t (Nat.le_refl _) (Nat.le_refl _) h
      unfold printS
      rw [if_pos hx, run_back ls noScr x (by rw [← e1]; omega) e2, e1]
      rfl
def fnL (f : Fn) : List (List UInt8) := headS f :: f.code.map lineS
def linesOf (s : Scr) : List (List UInt8) := s.consts.map constL ++ s.funcs.flatMap fnL
theorem joinL_app (a b : List (List UInt8)) : joinL (a ++ b) = joinL a ++ joinL b := by simp [joinL]
theorem printT_lines (s : Scr) : printT s = joinL (linesOf s) := by
  unfold linesOf printT
  rw [joinL_app]
  congr 1
  · simp only [joinL, List.flatMap_map]
    simp only [← constT_eq]
  · induction s.funcs with
    | nil => rfl
    | cons f fs ih =>
      rw [List.flatMap_cons, List.flatMap_cons, joinL_app, ih]
      congr 1
      simp [fnT, fnL, joinL, List.flatMap_map]
      rfl
theorem run_consts : ∀ (ds cs : List (List UInt8)), (∀ c ∈ ds, c.length ≤ 256) → runL ⟨cs, []⟩ (ds.map constL) = some ⟨cs ++ ds, []⟩
  | [], cs, _ => by simp [runL_nil]
  | d :: ds, cs, h => by
    have hd := h d (by simp)
    have hc : cutAt (constL d) 32 = (wConst, hexWord d, true) := cut_app (by intro x hx; revert x; decide)
    have hs : rlStep ⟨cs, []⟩ (constL d) = some ⟨cs ++ [d], []⟩ := by
      unfold rlStep
      rw [hc]
      simp only
      rw [if_neg (by decide), if_neg (by simp), if_pos trivial, oneV_const hd]
      rfl
    rw [List.map_cons, runL_cons, hs]
    simp only [Option.bind_some]
    rw [run_consts ds (cs ++ [d]) (fun c hc => h c (List.mem_cons_of_mem _ hc))]
    simp
theorem run_code : ∀ (xs : List (Int × Int)) (cs : List (List UInt8)) (fs : List Fn) (g : Fn), (∀ x ∈ xs, GoodI x) → runL ⟨cs, fs ++ [g]⟩ (xs.map lineS) = some ⟨cs, fs ++ [⟨g.p, g.r, g.l, g.code ++ xs⟩]⟩
  | [], cs, fs, g, _ => by simp [runL_nil]
  | x :: xs, cs, fs, g, h => by
    obtain ⟨h1, h2, _⟩ := ins_fwd (h x (by simp))
    have hs : rlStep ⟨cs, fs ++ [g]⟩ (lineS x) = some ⟨cs, fs ++ [g.add x]⟩ := by
      unfold rlStep
      rw [if_neg h2, if_pos (by simp), h1]
      simp [addLast]
    rw [List.map_cons, runL_cons, hs]
    simp only [Option.bind_some]
    rw [run_code xs cs fs (g.add x) (fun y hy => h y (List.mem_cons_of_mem _ hy))]
    simp [Fn.add]
theorem head_word {f : Fn} (hl : f.lists = true) : (cutAt (headS f) 32).1 = wFunc := by
  unfold headS
  rw [if_pos (headOk_of hl)]
  have : headW f = wFunc ++ 32 :: ((rowW f.p ++ [32, 45, 62] ++ rowW f.r ++ [32, 59] ++ rowW f.l).drop 1) := by
    cases hp : f.p with
    | nil => simp [headW, hp, rowW, wFunc]
    | cons k ks => simp [headW, hp, rowW, wFunc]
  rw [this, cut_app (by intro x hx; revert x; decide)]
theorem run_funcs : ∀ (gs : List Fn) (cs : List (List UInt8)) (fs : List Fn), (∀ f ∈ gs, f.lists = true ∧ ∀ x ∈ f.code, GoodI x) → runL ⟨cs, fs⟩ (gs.flatMap fnL) = some ⟨cs, fs ++ gs⟩
  | [], cs, fs, _ => by simp [runL_nil]
  | f :: gs, cs, fs, h => by
    obtain ⟨hl, hx⟩ := h f (by simp)
    have hs : rlStep ⟨cs, fs⟩ (headS f) = some ⟨cs, fs ++ [⟨f.p, f.r, f.l, []⟩]⟩ := by
      unfold rlStep
      rw [if_pos (head_word hl), pieces_head hl, headOf_words hl]
      rfl
    rw [List.flatMap_cons, runL_app, fnL, runL_cons, hs]
    simp only [Option.bind_some]
    rw [run_code f.code cs fs ⟨f.p, f.r, f.l, []⟩ hx]
    simp only [Option.bind_some, List.nil_append]
    rw [run_funcs gs cs (fs ++ [f]) (fun g hg => h g (List.mem_cons_of_mem _ hg))]
    simp
theorem rowW_no (ns : List Int) : No 10 (rowW ns) := fun x hx => by
  obtain ⟨k, _, hk⟩ := List.mem_flatMap.1 hx
  rcases List.mem_cons.1 hk with rfl | hk
  · decide
  · exact (kindW_no32 k).2 x hk
theorem headS_ten (f : Fn) : No 10 (headS f) := by
  unfold headS
  split
  · unfold headW
    exact (((((show No 10 [102, 117, 110, 99] by intro x hx; revert x; decide).app (rowW_no _)).app (show No 10 [32, 45, 62] by intro x hx; revert x; decide)).app (rowW_no _)).app (show No 10 [32, 59] by intro x hx; revert x; decide)).app (rowW_no _)
  · intro x hx; cases hx
theorem joinL_len (ls : List (List UInt8)) : ls.length ≤ (joinL ls).length := by
  induction ls with
  | nil => simp
  | cons l ls ih =>
    have e : joinL (l :: ls) = l ++ [10] ++ joinL ls := by simp [joinL]
    rw [e]
    simp
    omega
theorem right_parts {s : Scr} (h : s.right = true) : (∀ c ∈ s.consts, c.length ≤ 256) ∧ ∀ f ∈ s.funcs, f.lists = true ∧ ∀ x ∈ f.code, GoodI x := by
  simp only [Scr.right, Bool.and_eq_true, decide_eq_true_eq, List.all_eq_true] at h
  obtain ⟨⟨⟨⟨h1, _⟩, h2⟩, h3⟩, h4⟩ := h
  refine ⟨h3, fun f hf => ?_⟩
  have := h4 f hf
  simp only [Fn.right, Bool.and_eq_true, List.all_eq_true] at this
  refine ⟨this.1, fun x hx => good_of h1 h2 ?_ (this.2 x hx)⟩
  have := this.1
  simp only [Fn.lists, Bool.and_eq_true, decide_eq_true_eq] at this
  exact this.1.1.2
/-- **A script is read as it was printed.** -/
theorem print_parse_back {s : Scr} (h : s.right = true) (hl : (printS s).length ≤ 65536) : parseS (printS s) = (s, 0) := by
  have e : printS s = joinL (linesOf s) := by unfold printS; rw [if_pos h, printT_lines]
  obtain ⟨hc, hf⟩ := right_parts h
  have hrun : runL noScr (linesOf s) = some s := by
    unfold linesOf
    rw [runL_app]
    show (runL ⟨[], []⟩ _).bind _ = _
    rw [run_consts s.consts [] hc]
    simp only [Option.bind_some, List.nil_append]
    rw [run_funcs s.funcs s.consts [] hf]
    simp
  have hno : ∀ l ∈ linesOf s, No 10 l := fun l hl => by
    rcases List.mem_append.1 hl with hl | hl
    · obtain ⟨c, _, rfl⟩ := List.mem_map.1 hl
      exact (show No 10 wConst by intro x hx; revert x; decide).app (No.cons (by decide) (hexWord_no c).2)
    · obtain ⟨f, hf', hl⟩ := List.mem_flatMap.1 hl
      rcases List.mem_cons.1 hl with rfl | hl
      · exact headS_ten f
      · obtain ⟨x, hx, rfl⟩ := List.mem_map.1 hl
        exact (ins_fwd ((hf f hf').2 x hx)).2.2
  have hlines : linesS (printS s) = (s, 0) := by
    unfold linesS
    rw [e]
    exact rlRun_lines (linesOf s) _ 1 noScr s hno (joinL_len _) hrun
  unfold parseS parseR
  rw [hlines, if_neg (by omega), if_neg (by simp [h])]
end Go.Proofs.YtbjipcpoiiegkaaGreatDoor
