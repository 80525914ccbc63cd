/- types.Alike, and a walk's turn. A walk's turn: leave, else. What op's tables come to, of any number. What an instruction takes and puts: taken, given. What an instruction puts: given. -/
import Derived.Test.YtpmlnkjamhelnaaGreatTE
import Derived.Test.YtpmlnkjamhelnaaGreatXM
namespace Go.Proofs.YtpmlnkjamhelnaaGreat
open Go.RowKit Go.Shelf
def alikeS (ns ms : List Int) : Int := if ns.length = ms.length then (if ns = ms then 0 else 33) else 32
set_option maxRecDepth 100000 in
set_option maxHeartbeats 1000000 in
theorem alike_any (a b : Option Addr) (c d n m : Nat) (ns ms : List Int) (hn : ns.length = n) (hm : ms.length = m) (bn : n ≤ 1000000) (bm : m ≤ 1000000) (w : World) (ha : NsAt w.cell? a ns) (hb : NsAt w.cell? b ms) :
    Calls Tryz.prog 113 #[.slice a n c, .slice b m d] w fun e w' => e = .returned (.int .i64 (alikeS ns ms)) ∧ ∃ k, w' = w.drewN k := by
  have hE := eqN_any a b c d n m ns ms hn hm w ha hb (by omega) (by omega)
  have HE := hid7 hE
  clear hE ha hb
  by_cases h1 : n = m
  · subst h1
    by_cases h2 : ns = ms
    · have HA : Hid (alikeS ns ms = 0) := hid7 (by rw [alikeS, if_pos (by omega), if_pos h2])
      have HE2 : Hid (Calls Tryz.prog 154 #[.slice a n c, .slice b n d] w fun e w' => e = .returned (.bool true) ∧ ∃ k, w' = w.drewN k) := hid7 (by have := HE.out; rw [decide_eq_true h2] at this; exact this)
      clear HE hn hm h2
      go_enter Tryz.func113, Tryz.ntmps113
      go_wp2_with (first | (go_at_call 154; refine HE2.out.mono ?_; rintro e w1 ⟨rfl, k, rfl⟩) | fail)
      go_ret
      exact ⟨by rw [HA.out]; rfl, _, rfl⟩
    · have HA : Hid (alikeS ns ms = 33) := hid7 (by rw [alikeS, if_pos (by omega), if_neg h2])
      have HE2 : Hid (Calls Tryz.prog 154 #[.slice a n c, .slice b n d] w fun e w' => e = .returned (.bool false) ∧ ∃ k, w' = w.drewN k) := hid7 (by have := HE.out; rw [decide_eq_false h2] at this; exact this)
      clear HE hn hm h2
      go_enter Tryz.func113, Tryz.ntmps113
      go_wp2_with (first | (go_at_call 154; refine HE2.out.mono ?_; rintro e w1 ⟨rfl, k, rfl⟩) | fail)
      go_ret
      exact ⟨by rw [HA.out]; rfl, _, rfl⟩
  · have HA : Hid (alikeS ns ms = 32) := hid7 (by rw [alikeS, if_neg (by omega)])
    have hne : ((n : Int) != (m : Int)) = true := by simp; omega
    clear HE hn hm
    go_enter Tryz.func113, Tryz.ntmps113
    go_wp2
    go_ret
    exact ⟨by rw [HA.out]; rfl, 0, rfl⟩
theorem WStA.drew {wb : Nat} {fv sv : Value} {p : List Int} {L : List OB} {a : Option Addr} {c : Nat} {la : Option Addr} {lc : Nat} {bs : List Nat} {W : World} (h : WStA wb fv sv p L a c la lc bs W) (k : Nat) : WStA wb fv sv p L a c la lc bs (W.drewN k) := ⟨h.box, h.cap, h.stk, h.row, h.len, h.nod, h.gt, h.blk⟩
/-- How a walk's step ends. -/
def WEnd (wb : Nat) (fv sv : Value) (er : Int) (p : List Int) (L : List OB) (W : World) (e : Ending) (w' : World) : Prop := e = .returned (.int .i64 er) ∧ (∃ a c la lc bs, WStA wb fv sv p L a c la lc bs w') ∧ Below wb W w' ∧ Mv7 W w'
theorem Mv7.drew {W W' : World} (h : Mv7 W W') (k : Nat) : Mv7 W (W'.drewN k) := ⟨h.1, h.2⟩
set_option maxRecDepth 100000 in
set_option maxHeartbeats 1000000 in
theorem turn_open {wb : Nat} {fv sv : Value} {p : List Int} {L : List OB} {a : Option Addr} {c : Nat} {la : Option Addr} {lc : Nat} {bs : List Nat} (bm : L.length ≤ 1000) (W : World) (h : WStA wb fv sv p L a c la lc bs W) (n : Int) (hn : n = 48 ∨ n = 51) :
    Calls Tryz.prog 153 #[.pointer (some ⟨wb, 0, none⟩), .int .i64 n] W (WEnd wb fv sv 0 p (L ++ [⟨p, p, decide (n = 51)⟩]) W) := by
  have hB := hid7 (begin7_any bm W.drew (h.drew 1) p a c p.length rfl h.cap h.stk (decide (n = 51)))
  have c2 := (four_cell h.box).1.2.2.1
  generalize hl : p.length = q at c2 hB
  have hlt := blk_lt h.box
  clear h hl
  have HW : Hid (∀ w1, (∃ la' lc' b', WStA wb fv sv p (L ++ [⟨p, p, decide (n = 51)⟩]) a c la' lc' (bs ++ [b']) w1) → Below wb W.drew w1 → Mv7 W.drew w1 → ∀ e, e = .returned (.int .i64 0) → WEnd wb fv sv 0 p (L ++ [⟨p, p, decide (n = 51)⟩]) W e w1) := hid7 fun w1 ⟨la', lc', b', h1⟩ h2 h3 e he => ⟨he, ⟨_, _, _, _, _, h1⟩, ((Below.refl wb W).drew).trans h2, h3⟩
  rcases hn with rfl | rfl
  all_goals
    go_enter Tryz.func153, Tryz.ntmps153
    go_wp2_with fail
    go_region_with (first | (go_at_call 174; refine hB.out.mono ?_; rintro e w1 ⟨rfl, h1, h2, h3⟩; have K1 := hid7 (And.intro h1 (And.intro h2 h3)); clear h1 h2 h3) | fail)
    all_goals
      go_wp2
      go_ret
      exact HW.out _ K1.out.1 K1.out.2.1 K1.out.2.2 _ rfl
set_option maxRecDepth 100000 in
set_option maxHeartbeats 1000000 in
theorem turn_none {wb : Nat} {fv sv : Value} {p : List Int} {L : List OB} {a : Option Addr} {c : Nat} {la : Option Addr} {lc : Nat} {bs : List Nat} (W : World) (h : WStA wb fv sv p L a c la lc bs W) (n : Int) (hn : ¬ (48 ≤ n ∧ n ≤ 52)) :
    Calls Tryz.prog 153 #[.pointer (some ⟨wb, 0, none⟩), .int .i64 n] W (WEnd wb fv sv 0 p L W) := by
  have HW : Hid (∀ e, e = .returned (.int .i64 0) → WEnd wb fv sv 0 p L W e W) := hid7 fun e he => ⟨he, ⟨_, _, _, _, _, h⟩, Below.refl _ _, Mv7.refl _⟩
  have e1 : (n == 48) = false := by simp; omega
  have e2 : (n == 49) = false := by simp; omega
  have e3 : (n == 50) = false := by simp; omega
  have e4 : (n == 51) = false := by simp; omega
  have e5 : (n == 52) = false := by simp; omega
  clear h hn
  go_enter Tryz.func153, Tryz.ntmps153
  go_wp2
  go_ret
  exact HW.out _ rfl
set_option maxRecDepth 100000 in
set_option maxHeartbeats 1000000 in
/-- An end: the innermost block is open no more. -/
theorem turn_end {wb : Nat} {fv sv : Value} {p : List Int} {L : List OB} {x : OB} {a : Option Addr} {c : Nat} {la : Option Addr} {lc : Nat} {bs : List Nat} (bp : p.length ≤ 1000) (bx : x.la.length ≤ 1000) (bm : L.length ≤ 1000) (W : World) (h : WStA wb fv sv p (L ++ [x]) a c la lc bs W) :
    Calls Tryz.prog 153 #[.pointer (some ⟨wb, 0, none⟩), .int .i64 50] W (WEnd wb fv sv (alikeS p x.la) p L W) := by
  have hC := close7_any bm W.drew (h.drew 1)
  have c2 := (four_cell h.box).1.2.2.1
  have HW : Hid (∀ w1 k, WStA wb fv sv p L a c la lc bs.dropLast w1 → Below wb W.drew w1 → Mv7 W.drew w1 → ∀ e, e = .returned (.int .i64 (alikeS p x.la)) → WEnd wb fv sv (alikeS p x.la) p L W e (w1.drewN k)) := hid7 fun w1 k h1 h2 h3 e he => ⟨he, ⟨_, _, _, _, _, h1.drew k⟩, below_draws2 (((Below.refl wb W).drew).trans h2) k, Mv7.drew h3 k⟩
  have HC : Hid (Calls Tryz.prog 176 #[.pointer (some ⟨wb, 3, none⟩)] W.drew fun e w' => ∃ b a2 d2, e = .returned (.pointer (some ⟨b, 0, none⟩)) ∧ w'.cell? ⟨b, 1, none⟩ = some (.slice a2 x.la.length d2) ∧ w'.cell? ⟨wb, 2, none⟩ = some (.slice a p.length c) ∧ Hid (Calls Tryz.prog 113 #[.slice a p.length c, .slice a2 x.la.length d2] w' fun e w'' => e = .returned (.int .i64 (alikeS p x.la)) ∧ ∃ k, w'' = w'.drewN k) ∧ Hid (WStA wb fv sv p L a c la lc bs.dropLast w' ∧ Below wb W.drew w' ∧ Mv7 W.drew w')) := hid7 (hC.mono fun e w' ⟨he, h1, h2, h3, h4⟩ => by
    obtain ⟨a1, c1, a2, d2, hb, _, _, _, n2⟩ := h4
    exact ⟨_, a2, d2, he, (three_cell7 hb).1.2.1, (four_cell h1.box).1.2.2.1, hid7 (alike_any a a2 c d2 _ _ p x.la rfl rfl (by omega) (by omega) w' h1.stk.at' n2.at'), hid7 ⟨h1, h2, h3⟩⟩)
  clear hC h
  generalize alikeS p x.la = er at HW HC ⊢
  generalize p.length = pl at c2 HC bp
  generalize x.la.length = xl at HC bx
  go_enter Tryz.func153, Tryz.ntmps153
  go_wp2_with fail
  go_region_with (first | (go_at_call 176; refine HC.out.mono ?_; clear HC; rintro e w1 ⟨b1, a2, d2, rfl, cb, cw, hA, K1⟩) | (go_at_call 113; refine hA.out.mono ?_; clear hA; rintro e w2 ⟨rfl, k, rfl⟩) | fail)
  all_goals
    go_wp2
    go_ret
    exact HW.out _ _ K1.out.1 K1.out.2.1 K1.out.2.2 _ rfl
end Go.Proofs.YtpmlnkjamhelnaaGreat
namespace Go.Proofs.YtpmlnkjamhelnaaGreat
open Go.RowKit Go.Shelf
theorem fstIx_lt {pr : Nat → Bool} : ∀ {m i : Nat}, fstIx pr m = some i → i < m
  | 0, i, h => by cases h
  | m + 1, i, h => by
    rw [fstIx] at h
    split at h
    · have := Option.some.inj h; omega
    · have := fstIx_lt h; omega
set_option maxRecDepth 100000 in
set_option maxHeartbeats 1000000 in
theorem turn_leave {wb : Nat} {fv sv : Value} {p : List Int} {L : List OB} {a : Option Addr} {c : Nat} {la : Option Addr} {lc : Nat} {bs : List Nat} (i : Nat) (hi : lpIx L = some i) (x : OB) (hx : L[i]? = some x) (bp : p.length ≤ 1000) (bx : x.en.length ≤ 1000) (bm : L.length ≤ 1000) (W : World) (h : WStA wb fv sv p L a c la lc bs W) :
    Calls Tryz.prog 153 #[.pointer (some ⟨wb, 0, none⟩), .int .i64 52] W (WEnd wb fv sv (alikeS p x.en) p L W) := by
  have hC := innerLoop7_any i hi bm W.drew (h.drew 1)
  have c2 := (four_cell h.box).1.2.2.1
  have hlt := blk_lt h.box
  have HW : Hid (∀ w1 k, WStA wb fv sv p L a c la lc bs w1 → Below W.drew.heap.size W.drew w1 → ∀ e, e = .returned (.int .i64 (alikeS p x.en)) → WEnd wb fv sv (alikeS p x.en) p L W e (w1.drewN k)) := hid7 fun w1 k h1 h2 e he => ⟨he, ⟨_, _, _, _, _, h1.drew k⟩, below_draws2 (((Below.refl wb W).drew).trans (h2.mono (Nat.le_of_lt hlt))) k, Mv7.drew (Mv7.below h2) k⟩
  have hil : i < L.length := fstIx_lt hi
  have hxi : L[i] = x := by rw [List.getElem?_eq_getElem hil] at hx; exact Option.some.inj hx
  have HC : Hid (Calls Tryz.prog 177 #[.pointer (some ⟨wb, 3, none⟩)] W.drew fun e w' => ∃ b a2 d2, e = .returned (.pointer (some ⟨b, 0, none⟩)) ∧ w'.cell? ⟨b, 0, none⟩ = some (.slice a2 x.en.length d2) ∧ w'.cell? ⟨wb, 2, none⟩ = some (.slice a p.length c) ∧ Hid (Calls Tryz.prog 113 #[.slice a p.length c, .slice a2 x.en.length d2] w' fun e w'' => e = .returned (.int .i64 (alikeS p x.en)) ∧ ∃ k, w'' = w'.drewN k) ∧ Hid (WStA wb fv sv p L a c la lc bs w' ∧ Below W.drew.heap.size W.drew w')) := hid7 (hC.mono fun e w' ⟨he, h2⟩ => by
    have h1 := (h.drew 1).below h2
    obtain ⟨a1, c1, a2, d2, hb, _, _, n1, _⟩ := h1.blk i hil
    rw [hxi] at hb n1
    exact ⟨_, a1, c1, he, (three_cell7 hb).1.1, (four_cell h1.box).1.2.2.1, hid7 (alike_any a a1 c c1 _ _ p x.en rfl rfl (by omega) (by omega) w' h1.stk.at' n1.at'), hid7 ⟨h1, h2⟩⟩)
  clear hC h hx hxi
  generalize alikeS p x.en = er at HW HC ⊢
  generalize p.length = pl at c2 HC bp
  generalize x.en.length = xl at HC bx
  go_enter Tryz.func153, Tryz.ntmps153
  go_wp2_with fail
  go_region_with (first | (go_at_call 177; refine HC.out.mono ?_; clear HC; rintro e w1 ⟨b1, a2, d2, rfl, cb, cw, hA, K1⟩) | (go_at_call 113; refine hA.out.mono ?_; clear hA; rintro e w2 ⟨rfl, k, rfl⟩) | fail)
  all_goals
    go_wp2
    go_ret
    exact HW.out _ _ K1.out.1 K1.out.2 _ rfl
set_option maxRecDepth 100000 in
set_option maxHeartbeats 1000000 in
theorem turn_else {wb : Nat} {fv sv : Value} {p : List Int} {L : List OB} {x : OB} {a : Option Addr} {c : Nat} {la : Option Addr} {lc : Nat} {bs : List Nat} (bx : x.en.length ≤ 1000) (bm : L.length ≤ 1000) (W : World) (h : WStA wb fv sv p (L ++ [x]) a c la lc bs W) :
    Calls Tryz.prog 153 #[.pointer (some ⟨wb, 0, none⟩), .int .i64 49] W (WEnd wb fv sv 0 x.en (L ++ [⟨x.en, p, x.lo⟩]) W) := by
  have hI := innermost7_any L.length (by simp) bm W h
  have hl : bs.length = L.length + 1 := by rw [h.len]; simp
  have hbg : wb < bs.getD L.length 0 := by
    have : bs.getD L.length 0 ∈ bs := by
      rw [List.getD_eq_getElem?_getD, List.getElem?_eq_getElem (by omega)]
      exact List.getElem_mem _
    exact h.gt _ this
  -- behind innermost: the block's cells; behind the store: what holds; behind put: what holds
  have HC : Hid (Calls Tryz.prog 175 #[.pointer (some ⟨wb, 3, none⟩)] W fun e w' => ∃ a1 c1, e = .returned (.pointer (some ⟨bs.getD L.length 0, 0, none⟩)) ∧ w'.cell? ⟨bs.getD L.length 0, 0, none⟩ = some (.slice a1 x.en.length c1) ∧ (∃ u, w'.cell? ⟨bs.getD L.length 0, 1, none⟩ = some u) ∧ w'.frozen? ⟨bs.getD L.length 0, 1, none⟩ = false ∧ w'.cell? ⟨wb, 2, none⟩ = some (.slice a p.length c) ∧ w'.frozen? ⟨wb, 2, none⟩ = false ∧
      Hid (Calls Tryz.prog 172 #[.slice a1 x.en.length c1, .slice none 0 0] (w'.setCell ⟨bs.getD L.length 0, 1, none⟩ (.slice a p.length c)) fun e w3 => ∃ a3 c3, e = .returned (.slice a3 x.en.length c3) ∧ (∃ u, w3.cell? ⟨wb, 2, none⟩ = some u) ∧ w3.frozen? ⟨wb, 2, none⟩ = false ∧ Hid (∀ e, e = .returned (.int .i64 0) → WEnd wb fv sv 0 x.en (L ++ [⟨x.en, p, x.lo⟩]) W e (w3.setCell ⟨wb, 2, none⟩ (.slice a3 x.en.length c3))))) := hid7 (hI.mono fun e w' ⟨he, b1⟩ => by
    have h1 := h.below b1
    have hlt := blk_lt h.box
    have hcx := four_cell h1.box
    have hob := h1.blk L.length (by simp)
    rw [List.getElem_append_right (Nat.le_refl _)] at hob
    simp only [Nat.sub_self, List.getElem_cons_zero] at hob
    obtain ⟨a1, c1, a2, d2, hb, k1, k2, n1, n2⟩ := hob
    have htc := three_cell7 hb
    refine ⟨a1, c1, he, htc.1.1, ⟨_, htc.1.2.1⟩, htc.2, hcx.1.2.2.1, hcx.2.1, hid7 ?_⟩
    have mS := Mv7.set (o := 1) (u := .slice a p.length c) hb (.inr (.inl rfl))
    have n1' := n1.mv mS
    refine (put_any a1 none c1 0 _ 0 x.en [] rfl rfl (by omega) (by omega) _ n1'.at' (.inl rfl)).mono ?_
    rintro e3 w3 ⟨a3, c3, he3, hc3, hr3, b3⟩
    rw [List.append_nil] at he3 hc3 hr3
    have hne : wb ≠ bs.getD L.length 0 := by omega
    -- the state behind the store of the block's last
    have hbx2 : (w'.setCell ⟨bs.getD L.length 0, 1, none⟩ (.slice a p.length c)).heap[wb]? = _ := (Below.heap_setCell _ _ _ wb hne).trans h1.box
    have h2 : WStA wb fv sv p (L ++ [⟨x.en, p, x.lo⟩]) a c la lc bs (w'.setCell ⟨bs.getD L.length 0, 1, none⟩ (.slice a p.length c)) := by
      refine ⟨?_, h1.cap, h1.stk.mv mS, ?_, by rw [hl]; simp, h1.nod, h1.gt, fun i hi => ?_⟩
      · rw [hbx2]; simp
      · have := h1.row
        rw [List.length_append, List.length_singleton] at this ⊢
        exact row_other6 this hb (by decide)
      · rw [List.length_append, List.length_singleton] at hi
        by_cases him : i < L.length
        · have q := h1.blk i (by simp; omega)
          rw [List.getElem_append_left him] at q ⊢
          refine q.other hb (.inr (.inl rfl)) fun e => ?_
          have e1 : bs[i]'(by omega) = bs[L.length]'(by omega) := by
            rw [List.getD_eq_getElem?_getD, List.getD_eq_getElem?_getD, List.getElem?_eq_getElem (by omega), List.getElem?_eq_getElem (by omega)] at e
            exact e
          exact (List.pairwise_iff_getElem.1 h1.nod) i L.length (by omega) (by omega) him e1
        · have him : i = L.length := by omega
          subst him
          rw [List.getElem_append_right (Nat.le_refl _)]
          simp only [Nat.sub_self, List.getElem_cons_zero]
          exact ⟨a1, c1, a, c, three_set1 hb, k1, h1.cap, n1', h1.stk.mv mS⟩
    have h3 := h2.below b3
    have hcx3 := four_cell h3.box
    refine ⟨a3, c3, he3, ⟨_, hcx3.1.2.2.1⟩, hcx3.2.1, hid7 fun e4 he4 => ⟨he4, ⟨a3, c3, la, lc, bs, ?_⟩, ?_, ?_⟩⟩
    · have mW := Mv7.set (o := 2) (u := .slice a3 x.en.length c3) h3.box (.inl rfl)
      refine ⟨four_set2 h3.box, hc3, ((ns_in_row hr3).low (Nat.le_of_lt (blk_lt h2.box))).mv mW, row_other6 h3.row h3.box (by decide), h3.len, h3.nod, h3.gt, fun i hi => (h3.blk i hi).other h3.box (.inl rfl) fun e => ?_⟩
      have : bs.getD i 0 ∈ bs := by
        rw [List.getD_eq_getElem?_getD, List.getElem?_eq_getElem (by rw [h3.len]; exact hi)]
        exact List.getElem_mem _
      have := h3.gt _ this
      omega
    · have q1 : Below wb W w' := b1.mono (Nat.le_of_lt hlt)
      have q2 : Below wb W (w'.setCell ⟨bs.getD L.length 0, 1, none⟩ (.slice a p.length c)) := q1.setCell (p := ⟨bs.getD L.length 0, 1, none⟩) (Nat.le_of_lt hbg) _
      exact (q2.trans (b3.mono (by have := q2.size; omega))).setCell (p := ⟨wb, 2, none⟩) (Nat.le_refl _) _
    · exact (((Mv7.below b1).trans mS).trans (Mv7.below b3)).trans (Mv7.set h3.box (.inl rfl)))
  have c2 := (four_cell h.box).1.2.2.1
  clear hI h hl
  generalize bs.getD L.length 0 = bb at HC hbg
  generalize p.length = pl at c2 HC
  generalize x.en.length = xl at HC bx
  go_enter Tryz.func153, Tryz.ntmps153
  go_wp2_with (first
    | (go_at_call 175; refine HC.out.mono ?_; clear HC; rintro e w1 ⟨a1, c1, rfl, d0, ⟨u1, d1⟩, z1, d2, z2, hP⟩)
    | (go_at_call 172; refine hP.out.mono ?_; clear hP; rintro e w3 ⟨a3, c3, rfl, ⟨u3, d3⟩, z3, HW⟩)
    | fail)
  go_ret
  exact HW.out _ rfl
end Go.Proofs.YtpmlnkjamhelnaaGreat
namespace Go.Proofs.YtpmlnkjamhelnaaGreat
open Go.RowKit

set_option maxRecDepth 100000 in
set_option maxHeartbeats 8000000 in
theorem in_np (n : Int) (h : n = 1 ∨ n = 2 ∨ n = 5 ∨ n = 6 ∨ n = 7 ∨ n = 8 ∨ n = 9 ∨ n = 10 ∨ n = 41 ∨ n = 42 ∨ n = 43 ∨ n = 44 ∨ n = 45 ∨ n = 46 ∨ n = 47 ∨ n = 48 ∨ n = 49 ∨ n = 50 ∨ n = 51 ∨ n = 52 ∨ n = 53) (w : World) : Calls Tryz.prog 201 #[.int .i64 n] w fun e w' => e = .returned (sliceOf (inT n) w) ∧ w' = worldOf (inT n) w := by
  rcases h with rfl | rfl | rfl | rfl | rfl | rfl | rfl | rfl | rfl | rfl | rfl | rfl | rfl | rfl | rfl | rfl | rfl | rfl | rfl | rfl | rfl
  all_goals as_aux_lemma =>
    go_enter Tryz.func201, Tryz.ntmps201
    go_wp2
    go_ret
    exact ⟨rfl, rfl⟩
set_option maxRecDepth 100000 in
set_option maxHeartbeats 8000000 in
theorem out_np (n : Int) (h : n = 1 ∨ n = 2 ∨ n = 5 ∨ n = 6 ∨ n = 7 ∨ n = 8 ∨ n = 9 ∨ n = 10 ∨ n = 41 ∨ n = 42 ∨ n = 43 ∨ n = 44 ∨ n = 45 ∨ n = 46 ∨ n = 47 ∨ n = 48 ∨ n = 49 ∨ n = 50 ∨ n = 51 ∨ n = 52 ∨ n = 53) (w : World) : Calls Tryz.prog 202 #[.int .i64 n] w fun e w' => e = .returned (sliceOf (outT n) w) ∧ w' = worldOf (outT n) w := by
  rcases h with rfl | rfl | rfl | rfl | rfl | rfl | rfl | rfl | rfl | rfl | rfl | rfl | rfl | rfl | rfl | rfl | rfl | rfl | rfl | rfl | rfl
  all_goals as_aux_lemma =>
    go_enter Tryz.func202, Tryz.ntmps202
    go_wp2
    go_ret
    exact ⟨rfl, rfl⟩
set_option maxRecDepth 100000 in
set_option maxHeartbeats 1000000 in
theorem in_no (n : Int) (w : World) (h : n < 1 ∨ 53 < n) : Calls Tryz.prog 201 #[.int .i64 n] w fun e w' => e = .returned (sliceOf (inT n) w) ∧ w' = worldOf (inT n) w := by
  rw [show inT n = [] from rowOf_none _ _ n h]
  have e5 : (n == 5) = false := by simp; omega
  have e6 : (n == 6) = false := by simp; omega
  have e7 : (n == 7) = false := by simp; omega
  have e8 : (n == 8) = false := by simp; omega
  have e10 : (n == 10) = false := by simp; omega
  have e11 : (n == 11) = false := by simp; omega
  have e12 : (n == 12) = false := by simp; omega
  have e13 : (n == 13) = false := by simp; omega
  have e14 : (n == 14) = false := by simp; omega
  have e15 : (n == 15) = false := by simp; omega
  have e16 : (n == 16) = false := by simp; omega
  have e17 : (n == 17) = false := by simp; omega
  have e18 : (n == 18) = false := by simp; omega
  have e19 : (n == 19) = false := by simp; omega
  have e20 : (n == 20) = false := by simp; omega
  have e21 : (n == 21) = false := by simp; omega
  have e22 : (n == 22) = false := by simp; omega
  have e23 : (n == 23) = false := by simp; omega
  have e24 : (n == 24) = false := by simp; omega
  have e25 : (n == 25) = false := by simp; omega
  have e26 : (n == 26) = false := by simp; omega
  have e27 : (n == 27) = false := by simp; omega
  have e28 : (n == 28) = false := by simp; omega
  have e29 : (n == 29) = false := by simp; omega
  have e30 : (n == 30) = false := by simp; omega
  have e31 : (n == 31) = false := by simp; omega
  have e32 : (n == 32) = false := by simp; omega
  have e33 : (n == 33) = false := by simp; omega
  have e34 : (n == 34) = false := by simp; omega
  have e35 : (n == 35) = false := by simp; omega
  have e36 : (n == 36) = false := by simp; omega
  have e37 : (n == 37) = false := by simp; omega
  have e38 : (n == 38) = false := by simp; omega
  have e39 : (n == 39) = false := by simp; omega
  have e40 : (n == 40) = false := by simp; omega
  have e41 : (n == 41) = false := by simp; omega
  have e42 : (n == 42) = false := by simp; omega
  have e43 : (n == 43) = false := by simp; omega
  have e44 : (n == 44) = false := by simp; omega
  have e45 : (n == 45) = false := by simp; omega
  have e46 : (n == 46) = false := by simp; omega
  have e48 : (n == 48) = false := by simp; omega
  have e52 : (n == 52) = false := by simp; omega
  go_enter Tryz.func201, Tryz.ntmps201
  go_wp2
  all_goals (go_ret; exact ⟨rfl, rfl⟩)
set_option maxRecDepth 100000 in
set_option maxHeartbeats 1000000 in
theorem out_no (n : Int) (w : World) (h : n < 1 ∨ 53 < n) : Calls Tryz.prog 202 #[.int .i64 n] w fun e w' => e = .returned (sliceOf (outT n) w) ∧ w' = worldOf (outT n) w := by
  rw [show outT n = [] from rowOf_none _ _ n h]
  have e1 : (n == 1) = false := by simp; omega
  have e2 : (n == 2) = false := by simp; omega
  have e3 : (n == 3) = false := by simp; omega
  have e4 : (n == 4) = false := by simp; omega
  have e6 : (n == 6) = false := by simp; omega
  have e7 : (n == 7) = false := by simp; omega
  have e8 : (n == 8) = false := by simp; omega
  have e9 : (n == 9) = false := by simp; omega
  have e11 : (n == 11) = false := by simp; omega
  have e12 : (n == 12) = false := by simp; omega
  have e13 : (n == 13) = false := by simp; omega
  have e14 : (n == 14) = false := by simp; omega
  have e15 : (n == 15) = false := by simp; omega
  have e16 : (n == 16) = false := by simp; omega
  have e17 : (n == 17) = false := by simp; omega
  have e18 : (n == 18) = false := by simp; omega
  have e19 : (n == 19) = false := by simp; omega
  have e20 : (n == 20) = false := by simp; omega
  have e21 : (n == 21) = false := by simp; omega
  have e22 : (n == 22) = false := by simp; omega
  have e23 : (n == 23) = false := by simp; omega
  have e24 : (n == 24) = false := by simp; omega
  have e25 : (n == 25) = false := by simp; omega
  have e26 : (n == 26) = false := by simp; omega
  have e27 : (n == 27) = false := by simp; omega
  have e28 : (n == 28) = false := by simp; omega
  have e29 : (n == 29) = false := by simp; omega
  have e30 : (n == 30) = false := by simp; omega
  have e31 : (n == 31) = false := by simp; omega
  have e32 : (n == 32) = false := by simp; omega
  have e33 : (n == 33) = false := by simp; omega
  have e34 : (n == 34) = false := by simp; omega
  have e35 : (n == 35) = false := by simp; omega
  have e36 : (n == 36) = false := by simp; omega
  have e37 : (n == 37) = false := by simp; omega
  have e38 : (n == 38) = false := by simp; omega
  have e39 : (n == 39) = false := by simp; omega
  have e40 : (n == 40) = false := by simp; omega
  have e41 : (n == 41) = false := by simp; omega
  have e42 : (n == 42) = false := by simp; omega
  have e45 : (n == 45) = false := by simp; omega
  go_enter Tryz.func202, Tryz.ntmps202
  go_wp2
  all_goals (go_ret; exact ⟨rfl, rfl⟩)
set_option maxRecDepth 100000 in
set_option maxHeartbeats 1000000 in
theorem takes_no (n : Int) (w : World) (h : n < 1 ∨ 53 < n) : Calls Tryz.prog 97 #[.int .i64 n] w fun e w' => e = .returned (.int .i64 (takesT n)) ∧ w' = w := by
  rw [show takesT n = 0 from rowOf_none _ _ n h]
  have e1 : (n == 1) = false := by simp; omega
  have e2 : (n == 2) = false := by simp; omega
  have e9 : (n == 9) = false := by simp; omega
  have e10 : (n == 10) = false := by simp; omega
  have e51 : (n == 51) = false := by simp; omega
  have e53 : (n == 53) = false := by simp; omega
  go_enter Tryz.func97, Tryz.ntmps97
  go_wp2
  all_goals (go_ret; exact ⟨rfl, rfl⟩)
set_option maxRecDepth 100000 in
set_option maxHeartbeats 1000000 in
theorem cost_no (n : Int) (w : World) (h : n < 1 ∨ 53 < n) : Calls Tryz.prog 183 #[.int .i64 n] w fun e w' => e = .returned (.int .i64 (costT n)) ∧ w' = w := by
  rw [show costT n = 0 from rowOf_none _ _ n h]
  have e13 : (n == 13) = false := by simp; omega
  have e14 : (n == 14) = false := by simp; omega
  have e15 : (n == 15) = false := by simp; omega
  have e33 : (n == 33) = false := by simp; omega
  have e34 : (n == 34) = false := by simp; omega
  have e35 : (n == 35) = false := by simp; omega
  have e36 : (n == 36) = false := by simp; omega
  have e37 : (n == 37) = false := by simp; omega
  have e38 : (n == 38) = false := by simp; omega
  have e39 : (n == 39) = false := by simp; omega
  have e40 : (n == 40) = false := by simp; omega
  have e41 : (n == 41) = false := by simp; omega
  have e42 : (n == 42) = false := by simp; omega
  have e43 : (n == 43) = false := by simp; omega
  have e44 : (n == 44) = false := by simp; omega
  have e45 : (n == 45) = false := by simp; omega
  have e46 : (n == 46) = false := by simp; omega
  have e51 : (n == 51) = false := by simp; omega
  have e53 : (n == 53) = false := by simp; omega
  go_enter Tryz.func183, Tryz.ntmps183
  go_wp2
  all_goals (go_ret; exact ⟨rfl, rfl⟩)
set_option maxRecDepth 100000 in
set_option maxHeartbeats 8000000 in
theorem takes_in (n : Int) (h : n = 1 ∨ n = 2 ∨ n = 3 ∨ n = 4 ∨ n = 5 ∨ n = 6 ∨ n = 7 ∨ n = 8 ∨ n = 9 ∨ n = 10 ∨ n = 11 ∨ n = 12 ∨ n = 13 ∨ n = 14 ∨ n = 15 ∨ n = 16 ∨ n = 17 ∨ n = 18 ∨ n = 19 ∨ n = 20 ∨ n = 21 ∨ n = 22 ∨ n = 23 ∨ n = 24 ∨ n = 25 ∨ n = 26 ∨ n = 27 ∨ n = 28 ∨ n = 29 ∨ n = 30 ∨ n = 31 ∨ n = 32 ∨ n = 33 ∨ n = 34 ∨ n = 35 ∨ n = 36 ∨ n = 37 ∨ n = 38 ∨ n = 39 ∨ n = 40 ∨ n = 41 ∨ n = 42 ∨ n = 43 ∨ n = 44 ∨ n = 45 ∨ n = 46 ∨ n = 47 ∨ n = 48 ∨ n = 49 ∨ n = 50 ∨ n = 51 ∨ n = 52 ∨ n = 53) (w : World) : Calls Tryz.prog 97 #[.int .i64 n] w fun e w' => e = .returned (.int .i64 (takesT n)) ∧ w' = w := by
  rcases h with rfl | rfl | rfl | rfl | rfl | rfl | rfl | rfl | rfl | rfl | rfl | rfl | rfl | rfl | rfl | rfl | rfl | rfl | rfl | rfl | rfl | rfl | rfl | rfl | rfl | rfl | rfl | rfl | rfl | rfl | rfl | rfl | rfl | rfl | rfl | rfl | rfl | rfl | rfl | rfl | rfl | rfl | rfl | rfl | rfl | rfl | rfl | rfl | rfl | rfl | rfl | rfl | rfl
  all_goals as_aux_lemma =>
    go_enter Tryz.func97, Tryz.ntmps97
    go_wp2
    go_ret
    exact ⟨rfl, rfl⟩
set_option maxRecDepth 100000 in
set_option maxHeartbeats 8000000 in
theorem cost_in (n : Int) (h : n = 1 ∨ n = 2 ∨ n = 3 ∨ n = 4 ∨ n = 5 ∨ n = 6 ∨ n = 7 ∨ n = 8 ∨ n = 9 ∨ n = 10 ∨ n = 11 ∨ n = 12 ∨ n = 13 ∨ n = 14 ∨ n = 15 ∨ n = 16 ∨ n = 17 ∨ n = 18 ∨ n = 19 ∨ n = 20 ∨ n = 21 ∨ n = 22 ∨ n = 23 ∨ n = 24 ∨ n = 25 ∨ n = 26 ∨ n = 27 ∨ n = 28 ∨ n = 29 ∨ n = 30 ∨ n = 31 ∨ n = 32 ∨ n = 33 ∨ n = 34 ∨ n = 35 ∨ n = 36 ∨ n = 37 ∨ n = 38 ∨ n = 39 ∨ n = 40 ∨ n = 41 ∨ n = 42 ∨ n = 43 ∨ n = 44 ∨ n = 45 ∨ n = 46 ∨ n = 47 ∨ n = 48 ∨ n = 49 ∨ n = 50 ∨ n = 51 ∨ n = 52 ∨ n = 53) (w : World) : Calls Tryz.prog 183 #[.int .i64 n] w fun e w' => e = .returned (.int .i64 (costT n)) ∧ w' = w := by
  rcases h with rfl | rfl | rfl | rfl | rfl | rfl | rfl | rfl | rfl | rfl | rfl | rfl | rfl | rfl | rfl | rfl | rfl | rfl | rfl | rfl | rfl | rfl | rfl | rfl | rfl | rfl | rfl | rfl | rfl | rfl | rfl | rfl | rfl | rfl | rfl | rfl | rfl | rfl | rfl | rfl | rfl | rfl | rfl | rfl | rfl | rfl | rfl | rfl | rfl | rfl | rfl | rfl | rfl
  all_goals as_aux_lemma =>
    go_enter Tryz.func183, Tryz.ntmps183
    go_wp2
    go_ret
    exact ⟨rfl, rfl⟩
theorem in_any (n : Int) (w : World) : Calls Tryz.prog 201 #[.int .i64 n] w fun e w' => e = .returned (sliceOf (inT n) w) ∧ w' = worldOf (inT n) w := by
  by_cases h : n < 1 ∨ 53 < n
  · exact in_no n w h
  by_cases hp : plainB n = true
  · exact in_pl n (plain_cases n hp) w
  · have hq : ¬ (3 ≤ n ∧ n ≤ 4 ∨ 11 ≤ n ∧ n ≤ 40) := by simpa [plainB] using hp
    exact in_np n (by omega) w
theorem out_any (n : Int) (w : World) : Calls Tryz.prog 202 #[.int .i64 n] w fun e w' => e = .returned (sliceOf (outT n) w) ∧ w' = worldOf (outT n) w := by
  by_cases h : n < 1 ∨ 53 < n
  · exact out_no n w h
  by_cases hp : plainB n = true
  · exact out_pl n (plain_cases n hp) w
  · have hq : ¬ (3 ≤ n ∧ n ≤ 4 ∨ 11 ≤ n ∧ n ≤ 40) := by simpa [plainB] using hp
    exact out_np n (by omega) w
theorem takes_any (n : Int) (w : World) : Calls Tryz.prog 97 #[.int .i64 n] w fun e w' => e = .returned (.int .i64 (takesT n)) ∧ w' = w := by
  by_cases h : n < 1 ∨ 53 < n
  · exact takes_no n w h
  · exact takes_in n (op_cases n h) w
theorem cost_any (n : Int) (w : World) : Calls Tryz.prog 183 #[.int .i64 n] w fun e w' => e = .returned (.int .i64 (costT n)) ∧ w' = w := by
  by_cases h : n < 1 ∨ 53 < n
  · exact cost_no n w h
  · exact cost_in n (op_cases n h) w
end Go.Proofs.YtpmlnkjamhelnaaGreat
namespace Go.Proofs.YtpmlnkjamhelnaaGreat
open Go.RowKit Go.Shelf
def fnAt (fs : List Fn) (k : Int) : Fn := fs.getD k.toNat ⟨[], [], [], []⟩
def takenS (fs : List Fn) (sl : List Int) (x : Int × Int) : List Int :=
  if x.1 = 10 then [sl.getD x.2.toNat 0] else if x.1 = 53 then (fnAt fs x.2).p else inT x.1
def givenS (fs : List Fn) (sl : List Int) (x : Int × Int) (had : List Int) : List Int :=
  if x.1 = 6 then had ++ had else if x.1 = 7 then had.drop 1 ++ [had.getD 0 0] else if x.1 = 8 then had ++ [had.getD 0 0]
  else if x.1 = 9 then [sl.getD x.2.toNat 0] else if x.1 = 53 then (fnAt fs x.2).r else outT x.1
/-- An instruction that may be: of a function of fs with these slots. -/
def InsR (fs : List Fn) (sl : List Int) (x : Int × Int) : Prop := (x.1 = 9 ∨ x.1 = 10 → 0 ≤ x.2 ∧ x.2 < sl.length) ∧ (x.1 = 53 → 0 ≤ x.2 ∧ x.2 < fs.length)
/-- A row of numbers comes out. -/
def RowIs (ns : List Int) (w : World) (e : Ending) (w' : World) : Prop := ∃ a c, e = .returned (.slice a ns.length c) ∧ NsAt w'.cell? a ns ∧ Below w.heap.size w w'
theorem opT_row (n : Int) (F : Nat) (T : List Int) (w : World) (h : Calls Tryz.prog F #[.int .i64 n] w fun e w' => e = .returned (sliceOf T w) ∧ w' = worldOf T w) : Calls Tryz.prog F #[.int .i64 n] w (RowIs T w) := by
  refine h.mono ?_
  rintro e w' ⟨rfl, rfl⟩
  unfold sliceOf worldOf
  by_cases hT : T = []
  · rw [if_pos hT, if_pos hT]
    subst hT
    exact ⟨none, 0, rfl, .inl rfl, Below.refl _ _⟩
  · rw [if_neg hT, if_neg hT]
    refine ⟨_, _, rfl, .inr ⟨_, 0, rfl, fun j hj => ?_⟩, (Below.refl _ w).alloc (Nat.le_refl _) _⟩
    rw [Nat.zero_add, Lib.cell_of_heap (heap_alloc_new w _)]
    simp [hj]
/-- What a walk holds of its functions and slots. -/
structure FSl (wb : Nat) (fs : List Fn) (sl : List Int) (fa : Option Addr) (fc : Nat) (sa : Option Addr) (sc : Nat) (W : World) : Prop where
  f : W.cell? ⟨wb, 0, none⟩ = some (.slice fa fs.length fc)
  s : W.cell? ⟨wb, 1, none⟩ = some (.slice sa sl.length sc)
  fat : FsAt W.cell? fa fs
  sat : NsAt W.cell? sa sl
  scap : sl.length ≤ sc
theorem slot_row {C : Addr → Option Value} {b off : Nat} {sl : List Int} (h : NsAt C (some ⟨b, off, none⟩) sl) (k : Nat) (hk : k < sl.length) : NsAt C (some ⟨b, off + k, none⟩) [sl.getD k 0] := by
  rcases h with rfl | ⟨b', off', e, h⟩
  · cases hk
  · cases e
    refine .inr ⟨b, off + k, rfl, fun j hj => ?_⟩
    have hj0 : j = 0 := by simp at hj; omega
    subst hj0
    rw [Nat.add_zero, h k hk, List.getD_eq_getElem?_getD, List.getElem?_eq_getElem hk]
    rfl
theorem fn_cells {C : Addr → Option Value} {b off : Nat} {fs : List Fn} (h : FsAt C (some ⟨b, off, none⟩) fs) (k : Nat) (hk : k < fs.length) : ∃ a0 c0 a1 c1, C ⟨b, off + k * 4, none⟩ = some (.slice a0 (fnAt fs k).p.length c0) ∧ NsAt C a0 (fnAt fs k).p ∧ C ⟨b, off + k * 4 + 1, none⟩ = some (.slice a1 (fnAt fs k).r.length c1) ∧ NsAt C a1 (fnAt fs k).r := by
  rcases h with rfl | ⟨b', off', e, h⟩
  · cases hk
  · cases e
    obtain ⟨v0, v1, v2, v3, h0, h1, _, _, ⟨a0, c0, rfl, n0⟩, ⟨a1, c1, rfl, n1⟩, _⟩ := h k hk
    have e : fnAt fs k = fs[k] := by rw [fnAt, Int.toNat_natCast, List.getD_eq_getElem?_getD, List.getElem?_eq_getElem hk]; rfl
    rw [e]
    exact ⟨a0, c0, a1, c1, h0, n0, h1, n1⟩
theorem fs_some {C : Addr → Option Value} {a : Option Addr} {fs : List Fn} (h : FsAt C a fs) (h0 : 0 < fs.length) : ∃ b off, a = some ⟨b, off, none⟩ := by
  rcases h with rfl | ⟨b, off, e, _⟩
  · cases h0
  · exact ⟨b, off, e⟩
set_option maxRecDepth 100000 in
set_option maxHeartbeats 1000000 in
theorem taken_any {wb : Nat} {fs : List Fn} {sl : List Int} {fa : Option Addr} {fc : Nat} {sa : Option Addr} {sc : Nat} (x : Int × Int) (hx : InsR fs sl x) (bs : sl.length ≤ 1000) (bf : fs.length ≤ 1000) (W : World) (h : FSl wb fs sl fa fc sa sc W) :
    Calls Tryz.prog 171 #[.pointer (some ⟨wb, 0, none⟩), .agg #[.int .i64 x.1, .int .i64 x.2]] W (RowIs (takenS fs sl x) W) := by
  obtain ⟨n, A⟩ := x
  simp only
  have b1 := (Below.refl _ W).alloc (Nat.le_refl _) (.cells #[.int .i64 n, .int .i64 A] 74)
  have hk : ∀ x v, W.cell? x = some v → (W.alloc (.cells #[.int .i64 n, .int .i64 A] 74)).cell? x = some v := fun x v hh => (b1.cell (World.block_lt_of_cell? W x hh)).trans hh
  have hlt := World.block_lt_of_cell? W _ h.f
  by_cases h10 : n = 10
  · subst h10
    obtain ⟨g1, g2⟩ := hx.1 (.inr rfl)
    simp only at g1 g2
    obtain ⟨k, rfl⟩ : ∃ k : Nat, A = k := ⟨A.toNat, by omega⟩
    obtain ⟨sb, so, rfl⟩ := ns_some h.sat (by omega)
    have c1 := h.s
    have hcap : (k : Int) + 1 ≤ sc := by have := h.scap; omega
    have hkk : k < sl.length := by omega
    have HE : Hid (∀ e m c', e = .returned (.slice (some ⟨sb, so + k, none⟩) 1 c') → RowIs (takenS fs sl (10, k)) W e ((W.alloc (.cells #[.int .i64 10, .int .i64 k] 74)).drewN m)) := hid7 fun e m c' he => by
      have e1 : takenS fs sl (10, k) = [sl.getD k 0] := by simp [takenS]
      rw [e1]
      exact ⟨_, c', he, (slot_row h.sat k hkk).keep hk, below_draws2 b1 m⟩
    generalize sl.length = sn at c1 g2 bs hkk
    clear h hx hk b1
    go_enter Tryz.func171, Tryz.ntmps171
    go_wp2
    go_quiet (fail)
    go_wp2
    go_ret
    exact HE.out _ _ _ rfl
  by_cases h53 : n = 53
  · subst h53
    obtain ⟨g1, g2⟩ := hx.2 rfl
    simp only at g1 g2
    obtain ⟨k, rfl⟩ : ∃ k : Nat, A = k := ⟨A.toNat, by omega⟩
    obtain ⟨fb, fo, rfl⟩ := fs_some h.fat (by omega)
    obtain ⟨a0, c0, a1, c1', q0, q1, _, _⟩ := fn_cells h.fat k (by omega)
    have c0' := h.f
    have HE : Hid (∀ e m, e = .returned (.slice a0 (fnAt fs k).p.length c0) → RowIs (takenS fs sl (53, k)) W e ((W.alloc (.cells #[.int .i64 53, .int .i64 k] 74)).drewN m)) := hid7 fun e m he => by
      have e1 : takenS fs sl (53, k) = (fnAt fs k).p := by simp [takenS]
      rw [e1]
      exact ⟨_, _, he, q1.keep hk, below_draws2 b1 m⟩
    have hlt2 := World.block_lt_of_cell? W _ q0
    generalize (fnAt fs k).p.length = pl at q0 HE
    generalize fs.length = fn at c0' g2 bf
    clear h hx hk b1 q1
    go_enter Tryz.func171, Tryz.ntmps171
    go_wp2
    go_quiet (fail)
    go_wp2
    go_ret
    exact HE.out _ _ rfl
  · have hI := hid7 (opT_row n 201 (inT n) _ (in_any n (W.alloc (.cells #[.int .i64 n, .int .i64 A] 74))))
    have e1 : takenS fs sl (n, A) = inT n := by simp [takenS, h10, h53]
    rw [e1]
    have HE : Hid (∀ e w', RowIs (inT n) (W.alloc (.cells #[.int .i64 n, .int .i64 A] 74)) e w' → RowIs (inT n) W e w') := hid7 fun e w' ⟨a, c, q1, q2, q3⟩ => ⟨a, c, q1, q2, b1.trans (q3.mono b1.size)⟩
    generalize inT n = T at hI HE
    unfold RowIs at hI
    clear h hx hk b1 e1
    go_enter Tryz.func171, Tryz.ntmps171
    go_wp2_with (first | (go_at_call 201; refine hI.out.mono ?_; clear hI; rintro e w1 ⟨a1, c1, rfl, q2, q3⟩; have K1 := hid7 (And.intro q2 q3); clear q2 q3) | fail)
    go_ret
    exact HE.out _ _ ⟨a1, c1, rfl, K1.out.1, K1.out.2⟩
end Go.Proofs.YtpmlnkjamhelnaaGreat
namespace Go.Proofs.YtpmlnkjamhelnaaGreat
open Go.RowKit Go.Shelf
theorem IntEnd.row {ns : List Int} {w w0 : World} {e : Ending} {w' : World} (h : IntEnd ns w e w') (hb : Below w0.heap.size w0 w) : RowIs ns w0 e w' := by
  obtain ⟨a, c, he, _, hr, h2⟩ := h
  exact ⟨a, c, he, (ns_in_row hr).at', hb.trans (h2.mono hb.size)⟩
theorem ns_one_new (V : World) (y : Int) : NsAt (V.alloc (.cells #[.int .i64 y] 3)).cell? (some ⟨V.heap.size, 0, none⟩) [y] := .inr ⟨_, 0, rfl, fun j hj => by
  have hj0 : j = 0 := by simp at hj; omega
  subst hj0
  rw [Nat.zero_add, Lib.cell_of_heap (heap_alloc_new V _)]
  rfl⟩
theorem ns_tail {C : Addr → Option Value} {b off : Nat} {x y : Int} (h : NsAt C (some ⟨b, off, none⟩) [x, y]) : NsAt C (some ⟨b, off + 1, none⟩) [y] := by
  rcases h with h | ⟨b', off', e, h⟩
  · cases h
  · cases e
    refine .inr ⟨b, off + 1, rfl, fun j hj => ?_⟩
    have hj0 : j = 0 := by simp at hj; omega
    subst hj0
    exact h 1 (by simp)
set_option maxRecDepth 100000 in
set_option maxHeartbeats 1000000 in
theorem given_any {wb : Nat} {fs : List Fn} {sl : List Int} {fa : Option Addr} {fc : Nat} {sa : Option Addr} {sc : Nat} (x : Int × Int) (hx : InsR fs sl x) (bs : sl.length ≤ 1000) (bf : fs.length ≤ 1000) (W : World) (h : FSl wb fs sl fa fc sa sc W)
    (had : List Int) (ha : Option Addr) (hc hn : Nat) (hl : had.length = hn) (bh : hn ≤ 1000) (hcap : hn ≤ hc) (hN : NsAt W.cell? ha had) (h78 : x.1 = 7 ∨ x.1 = 8 → hn = 2) :
    Calls Tryz.prog 173 #[.pointer (some ⟨wb, 0, none⟩), .agg #[.int .i64 x.1, .int .i64 x.2], .slice ha hn hc] W (RowIs (givenS fs sl x had) W) := by
  obtain ⟨n, A⟩ := x
  simp only at h78 ⊢
  have b1 := (Below.refl _ W).alloc (Nat.le_refl _) (.cells #[.int .i64 n, .int .i64 A] 74)
  have hk : ∀ x v, W.cell? x = some v → (W.alloc (.cells #[.int .i64 n, .int .i64 A] 74)).cell? x = some v := fun x v hh => (b1.cell (World.block_lt_of_cell? W x hh)).trans hh
  have hlt := World.block_lt_of_cell? W _ h.f
  by_cases h6 : n = 6
  · subst h6
    have hP := hid7 (put_any ha ha hc hc hn hn had had hl hl (by omega) (by omega) (W.alloc (.cells #[.int .i64 6, .int .i64 A] 74)) (hN.keep hk) (hN.keep hk))
    have hPr : Hid (Calls Tryz.prog 172 #[.slice ha hn hc, .slice ha hn hc] (W.alloc (.cells #[.int .i64 6, .int .i64 A] 74)) fun e w' => ∃ a c, e = .returned (.slice a (hn + hn) c) ∧ Hid (RowIs (givenS fs sl (6, A) had) W e w')) := hid7 (hP.out.mono fun e w' q => by
      have e1 : givenS fs sl (6, A) had = had ++ had := by simp [givenS]
      obtain ⟨a, c, he, q2⟩ := q
      exact ⟨a, c, by rw [he, List.length_append, hl], hid7 (by rw [e1]; exact IntEnd.row ⟨a, c, he, q2⟩ b1)⟩)
    clear hP h hx hk b1 hN
    go_enter Tryz.func173, Tryz.ntmps173
    go_wp2_with (first | (go_at_call 172; refine hPr.out.mono ?_; clear hPr; rintro e w1 ⟨a1, c1, rfl, K1⟩) | fail)
    go_ret
    exact K1.out
  by_cases h7 : n = 7
  · subst h7
    have h2 := h78 (.inl rfl)
    subst h2
    obtain ⟨y, z, rfl⟩ : ∃ y z, had = [y, z] := by
      match had, hl with
      | [y, z], _ => exact ⟨y, z, rfl⟩
    obtain ⟨hb, ho, rfl⟩ := ns_some hN (by simp)
    have c0 := ns_at hN 0 (by simp)
    simp only [List.getD_eq_getElem?_getD, List.getElem?_cons_zero, Option.getD_some, Nat.add_zero] at c0
    have hcc : (2 : Int) ≤ hc := by omega
    have h1c : hc ≠ 1 := by omega
    have HP : Hid (Calls Tryz.prog 172 #[.slice (some ⟨hb, ho + 1, none⟩) 1 (hc - 1), .slice (some ⟨W.heap.size + 1, 0, none⟩) 1 1] ((W.alloc (.cells #[.int .i64 7, .int .i64 A] 74)).alloc (.cells #[.int .i64 y] 3)).drew fun e w' => ∃ a c, e = .returned (.slice a 2 c) ∧ Hid (RowIs (givenS fs sl (7, A) [y, z]) W e w')) := hid7 (by
      have bV := (b1.alloc b1.size (.cells #[.int .i64 y] 3)).drew
      have hone := ns_one_new (W.alloc (.cells #[.int .i64 7, .int .i64 A] 74)) y
      rw [World.size_alloc] at hone
      refine (put_any (some ⟨hb, ho + 1, none⟩) (some ⟨W.heap.size + 1, 0, none⟩) (hc - 1) 1 1 1 [z] [y] rfl rfl (by omega) (by omega) _ ((ns_tail hN).keep fun x v hh => (bV.cell (World.block_lt_of_cell? W x hh)).trans hh) hone).mono fun e w' q => ?_
      have e1 : givenS fs sl (7, A) [y, z] = [z] ++ [y] := by simp [givenS]
      obtain ⟨a, c, he, q2⟩ := q
      exact ⟨a, c, he, hid7 (by rw [e1]; exact IntEnd.row ⟨a, c, he, q2⟩ bV)⟩)
    have hltb := World.block_lt_of_cell? W _ c0
    clear h hx hk b1 hN
    go_enter Tryz.func173, Tryz.ntmps173
    go_wp2_with fail
    go_region_with (first | (go_at_call 172; refine HP.out.mono ?_; clear HP; rintro e w1 ⟨a1, c1, rfl, K1⟩) | fail)
    all_goals
      go_wp2
      go_ret
      exact K1.out
  by_cases h8 : n = 8
  · subst h8
    have h2 := h78 (.inr rfl)
    subst h2
    obtain ⟨y, z, rfl⟩ : ∃ y z, had = [y, z] := by
      match had, hl with
      | [y, z], _ => exact ⟨y, z, rfl⟩
    obtain ⟨hb, ho, rfl⟩ := ns_some hN (by simp)
    have c0 := ns_at hN 0 (by simp)
    simp only [List.getD_eq_getElem?_getD, List.getElem?_cons_zero, Option.getD_some, Nat.add_zero] at c0
    have HP : Hid (Calls Tryz.prog 172 #[.slice (some ⟨hb, ho, none⟩) 2 hc, .slice (some ⟨W.heap.size + 1, 0, none⟩) 1 1] ((W.alloc (.cells #[.int .i64 8, .int .i64 A] 74)).alloc (.cells #[.int .i64 y] 3)) fun e w' => ∃ a c, e = .returned (.slice a 3 c) ∧ Hid (RowIs (givenS fs sl (8, A) [y, z]) W e w')) := hid7 (by
      have bV := b1.alloc b1.size (.cells #[.int .i64 y] 3)
      have hone := ns_one_new (W.alloc (.cells #[.int .i64 8, .int .i64 A] 74)) y
      rw [World.size_alloc] at hone
      refine (put_any (some ⟨hb, ho, none⟩) (some ⟨W.heap.size + 1, 0, none⟩) hc 1 2 1 [y, z] [y] rfl rfl (by omega) (by omega) _ (hN.keep fun x v hh => (bV.cell (World.block_lt_of_cell? W x hh)).trans hh) hone).mono fun e w' q => ?_
      have e1 : givenS fs sl (8, A) [y, z] = [y, z] ++ [y] := by simp [givenS]
      obtain ⟨a, c, he, q2⟩ := q
      exact ⟨a, c, he, hid7 (by rw [e1]; exact IntEnd.row ⟨a, c, he, q2⟩ bV)⟩)
    have hltb := World.block_lt_of_cell? W _ c0
    clear h hx hk b1 hN
    go_enter Tryz.func173, Tryz.ntmps173
    go_wp2_with (first | (go_at_call 172; refine HP.out.mono ?_; clear HP; rintro e w1 ⟨a1, c1, rfl, K1⟩) | fail)
    go_ret
    exact K1.out
  by_cases h9 : n = 9
  · subst h9
    obtain ⟨g1, g2⟩ := hx.1 (.inl rfl)
    simp only at g1 g2
    obtain ⟨k, rfl⟩ : ∃ k : Nat, A = k := ⟨A.toNat, by omega⟩
    obtain ⟨sb, so, rfl⟩ := ns_some h.sat (by omega)
    have c1 := h.s
    have hcap' : (k : Int) + 1 ≤ sc := by have := h.scap; omega
    have hkk : k < sl.length := by omega
    have HE : Hid (∀ e m c', e = .returned (.slice (some ⟨sb, so + k, none⟩) 1 c') → RowIs (givenS fs sl (9, k) had) W e ((W.alloc (.cells #[.int .i64 9, .int .i64 k] 74)).drewN m)) := hid7 fun e m c' he => by
      have e1 : givenS fs sl (9, k) had = [sl.getD k 0] := by simp [givenS]
      rw [e1]
      exact ⟨_, c', he, (slot_row h.sat k hkk).keep hk, below_draws2 b1 m⟩
    generalize sl.length = sn at c1 g2 bs hkk
    clear h hx hk b1 hN
    go_enter Tryz.func173, Tryz.ntmps173
    go_wp2
    go_quiet (fail)
    go_wp2
    go_ret
    exact HE.out _ _ _ rfl
  by_cases h53 : n = 53
  · subst h53
    obtain ⟨g1, g2⟩ := hx.2 rfl
    simp only at g1 g2
    obtain ⟨k, rfl⟩ : ∃ k : Nat, A = k := ⟨A.toNat, by omega⟩
    obtain ⟨fb, fo, rfl⟩ := fs_some h.fat (by omega)
    obtain ⟨a0, c0, a1, c1', _, _, q0, q1⟩ := fn_cells h.fat k (by omega)
    have c0' := h.f
    have HE : Hid (∀ e m, e = .returned (.slice a1 (fnAt fs k).r.length c1') → RowIs (givenS fs sl (53, k) had) W e ((W.alloc (.cells #[.int .i64 53, .int .i64 k] 74)).drewN m)) := hid7 fun e m he => by
      have e1 : givenS fs sl (53, k) had = (fnAt fs k).r := by simp [givenS]
      rw [e1]
      exact ⟨_, _, he, q1.keep hk, below_draws2 b1 m⟩
    have hlt2 := World.block_lt_of_cell? W _ q0
    generalize (fnAt fs k).r.length = pl at q0 HE
    generalize fs.length = fn at c0' g2 bf
    clear h hx hk b1 q1 hN
    go_enter Tryz.func173, Tryz.ntmps173
    go_wp2
    go_quiet (fail)
    go_wp2
    go_ret
    exact HE.out _ _ rfl
  · have hI := hid7 (opT_row n 202 (outT n) _ (out_any n (W.alloc (.cells #[.int .i64 n, .int .i64 A] 74))))
    have e1 : givenS fs sl (n, A) had = outT n := by simp [givenS, h6, h7, h8, h9, h53]
    rw [e1]
    have HE : Hid (∀ e w', RowIs (outT n) (W.alloc (.cells #[.int .i64 n, .int .i64 A] 74)) e w' → RowIs (outT n) W e w') := hid7 fun e w' ⟨a, c, q1, q2, q3⟩ => ⟨a, c, q1, q2, b1.trans (q3.mono b1.size)⟩
    generalize outT n = T at hI HE
    unfold RowIs at hI
    clear h hx hk b1 e1 hN
    go_enter Tryz.func173, Tryz.ntmps173
    go_wp2_with (first | (go_at_call 202; refine hI.out.mono ?_; clear hI; rintro e w1 ⟨a1, c1, rfl, q2, q3⟩; have K1 := hid7 (And.intro q2 q3); clear q2 q3) | fail)
    go_ret
    exact HE.out _ _ ⟨a1, c1, rfl, K1.out.1, K1.out.2⟩
end Go.Proofs.YtpmlnkjamhelnaaGreat
