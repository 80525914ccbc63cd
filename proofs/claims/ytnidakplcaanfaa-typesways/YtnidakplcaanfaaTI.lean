/- A walk's turn: leave, else. What op's tables come to. What op's tables come to, of any number. -/
import Derived.Test.YtnidakplcaanfaaCE
import Derived.Test.YtnidakplcaanfaaChecked
import Derived.WalkKit
import Derived.WalkSpells
import Derived.WalkLawsBesides
import Derived.BigQuiet
import Derived.Deep.QuietTactic
import Derived.Deep.RegionWith
namespace Go.Proofs.Ytnidakplcaanfaa
open Go.RowKit Go.Shelf
theorem fstIx_lt {pr : Nat → Bool} : ∀ {m i : Nat}, fstIx pr m = some i → i < m
  | 0, i, h => by cases h
  | m + 1, i, h => by
    rw [fstIx] at h
    split at h
    · have := Option.some.inj h; omega
    · have := fstIx_lt h; omega
set_option maxRecDepth 100000 in
set_option maxHeartbeats 1000000 in
theorem turn_leave {wb : Nat} {fv sv : Value} {p : List Int} {L : List OB} {a : Option Addr} {c : Nat} {la : Option Addr} {lc : Nat} {bs : List Nat} (i : Nat) (hi : lpIx L = some i) (x : OB) (hx : L[i]? = some x) (bp : p.length ≤ 1000) (bx : x.en.length ≤ 1000) (bm : L.length ≤ 1000) (W : World) (h : WStA wb fv sv p L a c la lc bs W) :
    Calls Try.prog 72 #[.pointer (some ⟨wb, 0, none⟩), .int .i64 52] W (WEnd wb fv sv (alikeS p x.en) p L W) := by
  have hC := innerLoop7_any i hi bm W.drew (h.drew 1)
  have c2 := (four_cell h.box).1.2.2.1
  have hlt := blk_lt h.box
  have HW : Hid (∀ w1 k, WStA wb fv sv p L a c la lc bs w1 → Below W.drew.heap.size W.drew w1 → ∀ e, e = .returned (.int .i64 (alikeS p x.en)) → WEnd wb fv sv (alikeS p x.en) p L W e (w1.drewN k)) := hid7 fun w1 k h1 h2 e he => ⟨he, ⟨_, _, _, _, _, h1.drew k⟩, below_draws2 (((Below.refl wb W).drew).trans (h2.mono (Nat.le_of_lt hlt))) k, Mv7.drew (Mv7.below h2) k⟩
  have hil : i < L.length := fstIx_lt hi
  have hxi : L[i] = x := by rw [List.getElem?_eq_getElem hil] at hx; exact Option.some.inj hx
  have HC : Hid (Calls Try.prog 92 #[.pointer (some ⟨wb, 3, none⟩)] W.drew fun e w' => ∃ b a2 d2, e = .returned (.pointer (some ⟨b, 0, none⟩)) ∧ w'.cell? ⟨b, 0, none⟩ = some (.slice a2 x.en.length d2) ∧ w'.cell? ⟨wb, 2, none⟩ = some (.slice a p.length c) ∧ Hid (Calls Try.prog 18 #[.slice a p.length c, .slice a2 x.en.length d2] w' fun e w'' => e = .returned (.int .i64 (alikeS p x.en)) ∧ ∃ k, w'' = w'.drewN k) ∧ Hid (WStA wb fv sv p L a c la lc bs w' ∧ Below W.drew.heap.size W.drew w')) := hid7 (hC.mono fun e w' ⟨he, h2⟩ => by
    have h1 := (h.drew 1).below h2
    obtain ⟨a1, c1, a2, d2, hb, _, _, n1, _⟩ := h1.blk i hil
    rw [hxi] at hb n1
    exact ⟨_, a1, c1, he, (three_cell7 hb).1.1, (four_cell h1.box).1.2.2.1, hid7 (alike_any a a1 c c1 _ _ p x.en rfl rfl (by omega) (by omega) w' h1.stk.at' n1.at'), hid7 ⟨h1, h2⟩⟩)
  clear hC h hx hxi
  generalize alikeS p x.en = er at HW HC ⊢
  generalize p.length = pl at c2 HC bp
  generalize x.en.length = xl at HC bx
  go_enter Try.func72, Try.ntmps72
  go_wp2_with fail
  go_region_with (first | (go_at_call 92; refine HC.out.mono ?_; clear HC; rintro e w1 ⟨b1, a2, d2, rfl, cb, cw, hA, K1⟩) | (go_at_call 18; refine hA.out.mono ?_; clear hA; rintro e w2 ⟨rfl, k, rfl⟩) | fail)
  all_goals
    go_wp2
    go_ret
    exact HW.out _ _ K1.out.1 K1.out.2 _ rfl
set_option maxRecDepth 100000 in
set_option maxHeartbeats 1000000 in
theorem turn_else {wb : Nat} {fv sv : Value} {p : List Int} {L : List OB} {x : OB} {a : Option Addr} {c : Nat} {la : Option Addr} {lc : Nat} {bs : List Nat} (bx : x.en.length ≤ 1000) (bm : L.length ≤ 1000) (W : World) (h : WStA wb fv sv p (L ++ [x]) a c la lc bs W) :
    Calls Try.prog 72 #[.pointer (some ⟨wb, 0, none⟩), .int .i64 49] W (WEnd wb fv sv 0 x.en (L ++ [⟨x.en, p, x.lo⟩]) W) := by
  have hI := innermost7_any L.length (by simp) bm W h
  have hl : bs.length = L.length + 1 := by rw [h.len]; simp
  have hbg : wb < bs.getD L.length 0 := by
    have : bs.getD L.length 0 ∈ bs := by
      rw [List.getD_eq_getElem?_getD, List.getElem?_eq_getElem (by omega)]
      exact List.getElem_mem _
    exact h.gt _ this
  -- behind innermost: the block's cells; behind the store: what holds; behind put: what holds
  have HC : Hid (Calls Try.prog 90 #[.pointer (some ⟨wb, 3, none⟩)] W fun e w' => ∃ a1 c1, e = .returned (.pointer (some ⟨bs.getD L.length 0, 0, none⟩)) ∧ w'.cell? ⟨bs.getD L.length 0, 0, none⟩ = some (.slice a1 x.en.length c1) ∧ (∃ u, w'.cell? ⟨bs.getD L.length 0, 1, none⟩ = some u) ∧ w'.frozen? ⟨bs.getD L.length 0, 1, none⟩ = false ∧ w'.cell? ⟨wb, 2, none⟩ = some (.slice a p.length c) ∧ w'.frozen? ⟨wb, 2, none⟩ = false ∧
      Hid (Calls Try.prog 87 #[.slice a1 x.en.length c1, .slice none 0 0] (w'.setCell ⟨bs.getD L.length 0, 1, none⟩ (.slice a p.length c)) fun e w3 => ∃ a3 c3, e = .returned (.slice a3 x.en.length c3) ∧ (∃ u, w3.cell? ⟨wb, 2, none⟩ = some u) ∧ w3.frozen? ⟨wb, 2, none⟩ = false ∧ Hid (∀ e, e = .returned (.int .i64 0) → WEnd wb fv sv 0 x.en (L ++ [⟨x.en, p, x.lo⟩]) W e (w3.setCell ⟨wb, 2, none⟩ (.slice a3 x.en.length c3))))) := hid7 (hI.mono fun e w' ⟨he, b1⟩ => by
    have h1 := h.below b1
    have hlt := blk_lt h.box
    have hcx := four_cell h1.box
    have hob := h1.blk L.length (by simp)
    rw [List.getElem_append_right (Nat.le_refl _)] at hob
    simp only [Nat.sub_self, List.getElem_cons_zero] at hob
    obtain ⟨a1, c1, a2, d2, hb, k1, k2, n1, n2⟩ := hob
    have htc := three_cell7 hb
    refine ⟨a1, c1, he, htc.1.1, ⟨_, htc.1.2.1⟩, htc.2, hcx.1.2.2.1, hcx.2.1, hid7 ?_⟩
    have mS := Mv7.set (o := 1) (u := .slice a p.length c) hb (.inr (.inl rfl))
    have n1' := n1.mv mS
    refine (put_any a1 none c1 0 _ 0 x.en [] rfl rfl (by omega) (by omega) _ n1'.at' (.inl rfl)).mono ?_
    rintro e3 w3 ⟨a3, c3, he3, hc3, hr3, b3⟩
    rw [List.append_nil] at he3 hc3 hr3
    have hne : wb ≠ bs.getD L.length 0 := by omega
    -- the state behind the store of the block's last
    have hbx2 : (w'.setCell ⟨bs.getD L.length 0, 1, none⟩ (.slice a p.length c)).heap[wb]? = _ := (Below.heap_setCell _ _ _ wb hne).trans h1.box
    have h2 : WStA wb fv sv p (L ++ [⟨x.en, p, x.lo⟩]) a c la lc bs (w'.setCell ⟨bs.getD L.length 0, 1, none⟩ (.slice a p.length c)) := by
      refine ⟨?_, h1.cap, h1.stk.mv mS, ?_, by rw [hl]; simp, h1.nod, h1.gt, fun i hi => ?_⟩
      · rw [hbx2]; simp
      · have := h1.row
        rw [List.length_append, List.length_singleton] at this ⊢
        exact row_other6 this hb (by decide)
      · rw [List.length_append, List.length_singleton] at hi
        by_cases him : i < L.length
        · have q := h1.blk i (by simp; omega)
          rw [List.getElem_append_left him] at q ⊢
          refine q.other hb (.inr (.inl rfl)) fun e => ?_
          have e1 : bs[i]'(by omega) = bs[L.length]'(by omega) := by
            rw [List.getD_eq_getElem?_getD, List.getD_eq_getElem?_getD, List.getElem?_eq_getElem (by omega), List.getElem?_eq_getElem (by omega)] at e
            exact e
          exact (List.pairwise_iff_getElem.1 h1.nod) i L.length (by omega) (by omega) him e1
        · have him : i = L.length := by omega
          subst him
          rw [List.getElem_append_right (Nat.le_refl _)]
          simp only [Nat.sub_self, List.getElem_cons_zero]
          exact ⟨a1, c1, a, c, three_set1 hb, k1, h1.cap, n1', h1.stk.mv mS⟩
    have h3 := h2.below b3
    have hcx3 := four_cell h3.box
    refine ⟨a3, c3, he3, ⟨_, hcx3.1.2.2.1⟩, hcx3.2.1, hid7 fun e4 he4 => ⟨he4, ⟨a3, c3, la, lc, bs, ?_⟩, ?_, ?_⟩⟩
    · have mW := Mv7.set (o := 2) (u := .slice a3 x.en.length c3) h3.box (.inl rfl)
      refine ⟨four_set2 h3.box, hc3, ((ns_in_row hr3).low (Nat.le_of_lt (blk_lt h2.box))).mv mW, row_other6 h3.row h3.box (by decide), h3.len, h3.nod, h3.gt, fun i hi => (h3.blk i hi).other h3.box (.inl rfl) fun e => ?_⟩
      have : bs.getD i 0 ∈ bs := by
        rw [List.getD_eq_getElem?_getD, List.getElem?_eq_getElem (by rw [h3.len]; exact hi)]
        exact List.getElem_mem _
      have := h3.gt _ this
      omega
    · have q1 : Below wb W w' := b1.mono (Nat.le_of_lt hlt)
      have q2 : Below wb W (w'.setCell ⟨bs.getD L.length 0, 1, none⟩ (.slice a p.length c)) := q1.setCell (p := ⟨bs.getD L.length 0, 1, none⟩) (Nat.le_of_lt hbg) _
      exact (q2.trans (b3.mono (by have := q2.size; omega))).setCell (p := ⟨wb, 2, none⟩) (Nat.le_refl _) _
    · exact (((Mv7.below b1).trans mS).trans (Mv7.below b3)).trans (Mv7.set h3.box (.inl rfl)))
  have c2 := (four_cell h.box).1.2.2.1
  clear hI h hl
  generalize bs.getD L.length 0 = bb at HC hbg
  generalize p.length = pl at c2 HC
  generalize x.en.length = xl at HC bx
  go_enter Try.func72, Try.ntmps72
  go_wp2_with (first
    | (go_at_call 90; refine HC.out.mono ?_; clear HC; rintro e w1 ⟨a1, c1, rfl, d0, ⟨u1, d1⟩, z1, d2, z2, hP⟩)
    | (go_at_call 87; refine hP.out.mono ?_; clear hP; rintro e w3 ⟨a3, c3, rfl, ⟨u3, d3⟩, z3, HW⟩)
    | fail)
  go_ret
  exact HW.out _ rfl
end Go.Proofs.Ytnidakplcaanfaa
namespace Go.Proofs.Ytnidakplcaanfaa
open Go.RowKit

def inTab : List (List Int) := [[], [], [], [], [], [0], [0], [0, 0], [0, 0], [], [0], [1, 1], [1, 1], [1, 1], [1, 1], [1, 1], [1], [1, 1], [1, 1], [1, 1], [1], [1, 1], [1, 1], [1, 1], [1, 1], [1, 1], [1, 1], [1, 1], [1, 1], [3, 3], [3, 3], [3], [2], [2, 2], [2, 1, 1], [2, 1], [2, 2], [2, 2], [1], [2], [1], [2], [2], [2, 2], [2], [2], [2], [], [3], [], [], [], [3], []]
def outTab : List (List Int) := [[], [1], [2], [3], [3], [], [0, 0], [0, 0], [0, 0, 0], [0], [], [1], [1], [1], [1], [1], [1], [1], [1], [1], [1], [1], [1], [3], [3], [3], [3], [3], [3], [3], [3], [3], [1], [2], [2], [1], [3], [3], [2], [1], [2], [2, 3], [3], [], [], [2, 3], [], [], [], [], [], [], [], []]
def costTab : List Int := [0, 1, 1, 1, 1, 1, 1, 1, 1, 1, 1, 1, 1, 2, 4, 4, 1, 1, 1, 1, 1, 1, 1, 1, 1, 1, 1, 1, 1, 1, 1, 1, 1, 6, 6, 2, 4, 4, 3, 3, 2, 20, 15, 30, 25, 20, 10, 1, 1, 1, 1, 2, 1, 5]
def takesTab : List Int := [0, 1, 2, 0, 0, 0, 0, 0, 0, 3, 3, 0, 0, 0, 0, 0, 0, 0, 0, 0, 0, 0, 0, 0, 0, 0, 0, 0, 0, 0, 0, 0, 0, 0, 0, 0, 0, 0, 0, 0, 0, 0, 0, 0, 0, 0, 0, 0, 0, 0, 0, 4, 0, 5]
def nameTab : List (List UInt8) := [[], [105, 110, 116], [99, 111, 110, 115, 116], [116, 114, 117, 101], [102, 97, 108, 115, 101], [100, 114, 111, 112], [100, 117, 112], [115, 119, 97, 112], [111, 118, 101, 114], [103, 101, 116], [115, 101, 116], [97, 100, 100], [115, 117, 98], [109, 117, 108], [100, 105, 118], [114, 101, 109], [110, 101, 103], [97, 110, 100], [111, 114], [120, 111, 114], [105, 110, 118], [115, 104, 108], [115, 104, 114], [101, 113], [110, 101], [108, 116], [108, 101], [103, 116], [103, 101], [98, 111, 116, 104], [101, 105, 116, 104, 101, 114], [110, 111, 116], [108, 101, 110], [106, 111, 105, 110], [99, 117, 116], [97, 116], [115, 97, 109, 101], [108, 101, 115, 115], [112, 97, 99, 107], [117, 110, 112, 97, 99, 107], [111, 110, 101], [108, 111, 97, 100], [104, 97, 115], [115, 97, 118, 101], [119, 105, 112, 101], [110, 101, 120, 116], [101, 109, 105, 116], [97, 98, 111, 114, 116], [105, 102], [101, 108, 115, 101], [101, 110, 100], [108, 111, 111, 112], [108, 101, 97, 118, 101], [99, 97, 108, 108]]
/-- A row of a table, of a number that is an operation. -/
def rowOf {α : Type} (T : List α) (d : α) (n : Int) : α := if 1 ≤ n ∧ n ≤ 53 then T.getD n.toNat d else d
def inT : Int → List Int := rowOf inTab []
def outT : Int → List Int := rowOf outTab []
def costT : Int → Int := rowOf costTab 0
def takesT : Int → Int := rowOf takesTab 0
def nameT : Int → List UInt8 := rowOf nameTab []
theorem rowOf_none {α : Type} (T : List α) (d : α) (n : Int) (h : n < 1 ∨ 53 < n) : rowOf T d n = d := by
  unfold rowOf; rw [if_neg (by omega)]
/-- A new list of numbers: nothing of none. -/
def sliceOf (l : List Int) (w : World) : Value := if l = [] then .slice none 0 0 else .slice (some ⟨w.heap.size, 0, none⟩) l.length l.length
def worldOf (l : List Int) (w : World) : World := if l = [] then w else w.alloc (.cells (l.map fun x => Value.int .i64 x).toArray 3)

theorem op_cases (n : Int) (h : ¬ (n < 1 ∨ 53 < n)) : n = 1 ∨ n = 2 ∨ n = 3 ∨ n = 4 ∨ n = 5 ∨ n = 6 ∨ n = 7 ∨ n = 8 ∨ n = 9 ∨ n = 10 ∨ n = 11 ∨ n = 12 ∨ n = 13 ∨ n = 14 ∨ n = 15 ∨ n = 16 ∨ n = 17 ∨ n = 18 ∨ n = 19 ∨ n = 20 ∨ n = 21 ∨ n = 22 ∨ n = 23 ∨ n = 24 ∨ n = 25 ∨ n = 26 ∨ n = 27 ∨ n = 28 ∨ n = 29 ∨ n = 30 ∨ n = 31 ∨ n = 32 ∨ n = 33 ∨ n = 34 ∨ n = 35 ∨ n = 36 ∨ n = 37 ∨ n = 38 ∨ n = 39 ∨ n = 40 ∨ n = 41 ∨ n = 42 ∨ n = 43 ∨ n = 44 ∨ n = 45 ∨ n = 46 ∨ n = 47 ∨ n = 48 ∨ n = 49 ∨ n = 50 ∨ n = 51 ∨ n = 52 ∨ n = 53 := by omega
def plainB (n : Int) : Bool := decide (3 ≤ n) && decide (n ≤ 4) || decide (11 ≤ n) && decide (n ≤ 40)
theorem plain_cases (n : Int) (h : plainB n = true) : n = 3 ∨ n = 4 ∨ n = 11 ∨ n = 12 ∨ n = 13 ∨ n = 14 ∨ n = 15 ∨ n = 16 ∨ n = 17 ∨ n = 18 ∨ n = 19 ∨ n = 20 ∨ n = 21 ∨ n = 22 ∨ n = 23 ∨ n = 24 ∨ n = 25 ∨ n = 26 ∨ n = 27 ∨ n = 28 ∨ n = 29 ∨ n = 30 ∨ n = 31 ∨ n = 32 ∨ n = 33 ∨ n = 34 ∨ n = 35 ∨ n = 36 ∨ n = 37 ∨ n = 38 ∨ n = 39 ∨ n = 40 := by
  simp [plainB] at h
  omega
set_option maxRecDepth 100000 in
set_option maxHeartbeats 8000000 in
theorem in_pl (n : Int) (h : n = 3 ∨ n = 4 ∨ n = 11 ∨ n = 12 ∨ n = 13 ∨ n = 14 ∨ n = 15 ∨ n = 16 ∨ n = 17 ∨ n = 18 ∨ n = 19 ∨ n = 20 ∨ n = 21 ∨ n = 22 ∨ n = 23 ∨ n = 24 ∨ n = 25 ∨ n = 26 ∨ n = 27 ∨ n = 28 ∨ n = 29 ∨ n = 30 ∨ n = 31 ∨ n = 32 ∨ n = 33 ∨ n = 34 ∨ n = 35 ∨ n = 36 ∨ n = 37 ∨ n = 38 ∨ n = 39 ∨ n = 40) (w : World) : Calls Try.prog 41 #[.int .i64 n] w fun e w' => e = .returned (sliceOf (inT n) w) ∧ w' = worldOf (inT n) w := by
  rcases h with rfl | rfl | rfl | rfl | rfl | rfl | rfl | rfl | rfl | rfl | rfl | rfl | rfl | rfl | rfl | rfl | rfl | rfl | rfl | rfl | rfl | rfl | rfl | rfl | rfl | rfl | rfl | rfl | rfl | rfl | rfl | rfl
  all_goals as_aux_lemma =>
    go_enter Try.func41, Try.ntmps41
    go_wp2
    go_ret
    exact ⟨rfl, rfl⟩
set_option maxRecDepth 100000 in
set_option maxHeartbeats 8000000 in
theorem out_pl (n : Int) (h : n = 3 ∨ n = 4 ∨ n = 11 ∨ n = 12 ∨ n = 13 ∨ n = 14 ∨ n = 15 ∨ n = 16 ∨ n = 17 ∨ n = 18 ∨ n = 19 ∨ n = 20 ∨ n = 21 ∨ n = 22 ∨ n = 23 ∨ n = 24 ∨ n = 25 ∨ n = 26 ∨ n = 27 ∨ n = 28 ∨ n = 29 ∨ n = 30 ∨ n = 31 ∨ n = 32 ∨ n = 33 ∨ n = 34 ∨ n = 35 ∨ n = 36 ∨ n = 37 ∨ n = 38 ∨ n = 39 ∨ n = 40) (w : World) : Calls Try.prog 42 #[.int .i64 n] w fun e w' => e = .returned (sliceOf (outT n) w) ∧ w' = worldOf (outT n) w := by
  rcases h with rfl | rfl | rfl | rfl | rfl | rfl | rfl | rfl | rfl | rfl | rfl | rfl | rfl | rfl | rfl | rfl | rfl | rfl | rfl | rfl | rfl | rfl | rfl | rfl | rfl | rfl | rfl | rfl | rfl | rfl | rfl | rfl
  all_goals as_aux_lemma =>
    go_enter Try.func42, Try.ntmps42
    go_wp2
    go_ret
    exact ⟨rfl, rfl⟩
end Go.Proofs.Ytnidakplcaanfaa
namespace Go.Proofs.Ytnidakplcaanfaa
open Go.RowKit

set_option maxRecDepth 100000 in
set_option maxHeartbeats 8000000 in
theorem in_np (n : Int) (h : n = 1 ∨ n = 2 ∨ n = 5 ∨ n = 6 ∨ n = 7 ∨ n = 8 ∨ n = 9 ∨ n = 10 ∨ n = 41 ∨ n = 42 ∨ n = 43 ∨ n = 44 ∨ n = 45 ∨ n = 46 ∨ n = 47 ∨ n = 48 ∨ n = 49 ∨ n = 50 ∨ n = 51 ∨ n = 52 ∨ n = 53) (w : World) : Calls Try.prog 41 #[.int .i64 n] w fun e w' => e = .returned (sliceOf (inT n) w) ∧ w' = worldOf (inT n) w := by
  rcases h with rfl | rfl | rfl | rfl | rfl | rfl | rfl | rfl | rfl | rfl | rfl | rfl | rfl | rfl | rfl | rfl | rfl | rfl | rfl | rfl | rfl
  all_goals as_aux_lemma =>
    go_enter Try.func41, Try.ntmps41
    go_wp2
    go_ret
    exact ⟨rfl, rfl⟩
set_option maxRecDepth 100000 in
set_option maxHeartbeats 8000000 in
theorem out_np (n : Int) (h : n = 1 ∨ n = 2 ∨ n = 5 ∨ n = 6 ∨ n = 7 ∨ n = 8 ∨ n = 9 ∨ n = 10 ∨ n = 41 ∨ n = 42 ∨ n = 43 ∨ n = 44 ∨ n = 45 ∨ n = 46 ∨ n = 47 ∨ n = 48 ∨ n = 49 ∨ n = 50 ∨ n = 51 ∨ n = 52 ∨ n = 53) (w : World) : Calls Try.prog 42 #[.int .i64 n] w fun e w' => e = .returned (sliceOf (outT n) w) ∧ w' = worldOf (outT n) w := by
  rcases h with rfl | rfl | rfl | rfl | rfl | rfl | rfl | rfl | rfl | rfl | rfl | rfl | rfl | rfl | rfl | rfl | rfl | rfl | rfl | rfl | rfl
  all_goals as_aux_lemma =>
    go_enter Try.func42, Try.ntmps42
    go_wp2
    go_ret
    exact ⟨rfl, rfl⟩
set_option maxRecDepth 100000 in
set_option maxHeartbeats 1000000 in
theorem in_no (n : Int) (w : World) (h : n < 1 ∨ 53 < n) : Calls Try.prog 41 #[.int .i64 n] w fun e w' => e = .returned (sliceOf (inT n) w) ∧ w' = worldOf (inT n) w := by
  rw [show inT n = [] from rowOf_none _ _ n h]
  have e5 : (n == 5) = false := by simp; omega
  have e6 : (n == 6) = false := by simp; omega
  have e7 : (n == 7) = false := by simp; omega
  have e8 : (n == 8) = false := by simp; omega
  have e10 : (n == 10) = false := by simp; omega
  have e11 : (n == 11) = false := by simp; omega
  have e12 : (n == 12) = false := by simp; omega
  have e13 : (n == 13) = false := by simp; omega
  have e14 : (n == 14) = false := by simp; omega
  have e15 : (n == 15) = false := by simp; omega
  have e16 : (n == 16) = false := by simp; omega
  have e17 : (n == 17) = false := by simp; omega
  have e18 : (n == 18) = false := by simp; omega
  have e19 : (n == 19) = false := by simp; omega
  have e20 : (n == 20) = false := by simp; omega
  have e21 : (n == 21) = false := by simp; omega
  have e22 : (n == 22) = false := by simp; omega
  have e23 : (n == 23) = false := by simp; omega
  have e24 : (n == 24) = false := by simp; omega
  have e25 : (n == 25) = false := by simp; omega
  have e26 : (n == 26) = false := by simp; omega
  have e27 : (n == 27) = false := by simp; omega
  have e28 : (n == 28) = false := by simp; omega
  have e29 : (n == 29) = false := by simp; omega
  have e30 : (n == 30) = false := by simp; omega
  have e31 : (n == 31) = false := by simp; omega
  have e32 : (n == 32) = false := by simp; omega
  have e33 : (n == 33) = false := by simp; omega
  have e34 : (n == 34) = false := by simp; omega
  have e35 : (n == 35) = false := by simp; omega
  have e36 : (n == 36) = false := by simp; omega
  have e37 : (n == 37) = false := by simp; omega
  have e38 : (n == 38) = false := by simp; omega
  have e39 : (n == 39) = false := by simp; omega
  have e40 : (n == 40) = false := by simp; omega
  have e41 : (n == 41) = false := by simp; omega
  have e42 : (n == 42) = false := by simp; omega
  have e43 : (n == 43) = false := by simp; omega
  have e44 : (n == 44) = false := by simp; omega
  have e45 : (n == 45) = false := by simp; omega
  have e46 : (n == 46) = false := by simp; omega
  have e48 : (n == 48) = false := by simp; omega
  have e52 : (n == 52) = false := by simp; omega
  go_enter Try.func41, Try.ntmps41
  go_wp2
  all_goals (go_ret; exact ⟨rfl, rfl⟩)
set_option maxRecDepth 100000 in
set_option maxHeartbeats 1000000 in
theorem out_no (n : Int) (w : World) (h : n < 1 ∨ 53 < n) : Calls Try.prog 42 #[.int .i64 n] w fun e w' => e = .returned (sliceOf (outT n) w) ∧ w' = worldOf (outT n) w := by
  rw [show outT n = [] from rowOf_none _ _ n h]
  have e1 : (n == 1) = false := by simp; omega
  have e2 : (n == 2) = false := by simp; omega
  have e3 : (n == 3) = false := by simp; omega
  have e4 : (n == 4) = false := by simp; omega
  have e6 : (n == 6) = false := by simp; omega
  have e7 : (n == 7) = false := by simp; omega
  have e8 : (n == 8) = false := by simp; omega
  have e9 : (n == 9) = false := by simp; omega
  have e11 : (n == 11) = false := by simp; omega
  have e12 : (n == 12) = false := by simp; omega
  have e13 : (n == 13) = false := by simp; omega
  have e14 : (n == 14) = false := by simp; omega
  have e15 : (n == 15) = false := by simp; omega
  have e16 : (n == 16) = false := by simp; omega
  have e17 : (n == 17) = false := by simp; omega
  have e18 : (n == 18) = false := by simp; omega
  have e19 : (n == 19) = false := by simp; omega
  have e20 : (n == 20) = false := by simp; omega
  have e21 : (n == 21) = false := by simp; omega
  have e22 : (n == 22) = false := by simp; omega
  have e23 : (n == 23) = false := by simp; omega
  have e24 : (n == 24) = false := by simp; omega
  have e25 : (n == 25) = false := by simp; omega
  have e26 : (n == 26) = false := by simp; omega
  have e27 : (n == 27) = false := by simp; omega
  have e28 : (n == 28) = false := by simp; omega
  have e29 : (n == 29) = false := by simp; omega
  have e30 : (n == 30) = false := by simp; omega
  have e31 : (n == 31) = false := by simp; omega
  have e32 : (n == 32) = false := by simp; omega
  have e33 : (n == 33) = false := by simp; omega
  have e34 : (n == 34) = false := by simp; omega
  have e35 : (n == 35) = false := by simp; omega
  have e36 : (n == 36) = false := by simp; omega
  have e37 : (n == 37) = false := by simp; omega
  have e38 : (n == 38) = false := by simp; omega
  have e39 : (n == 39) = false := by simp; omega
  have e40 : (n == 40) = false := by simp; omega
  have e41 : (n == 41) = false := by simp; omega
  have e42 : (n == 42) = false := by simp; omega
  have e45 : (n == 45) = false := by simp; omega
  go_enter Try.func42, Try.ntmps42
  go_wp2
  all_goals (go_ret; exact ⟨rfl, rfl⟩)
set_option maxRecDepth 100000 in
set_option maxHeartbeats 1000000 in
theorem takes_no (n : Int) (w : World) (h : n < 1 ∨ 53 < n) : Calls Try.prog 69 #[.int .i64 n] w fun e w' => e = .returned (.int .i64 (takesT n)) ∧ w' = w := by
  rw [show takesT n = 0 from rowOf_none _ _ n h]
  have e1 : (n == 1) = false := by simp; omega
  have e2 : (n == 2) = false := by simp; omega
  have e9 : (n == 9) = false := by simp; omega
  have e10 : (n == 10) = false := by simp; omega
  have e51 : (n == 51) = false := by simp; omega
  have e53 : (n == 53) = false := by simp; omega
  go_enter Try.func69, Try.ntmps69
  go_wp2
  all_goals (go_ret; exact ⟨rfl, rfl⟩)
set_option maxRecDepth 100000 in
set_option maxHeartbeats 8000000 in
theorem takes_in (n : Int) (h : n = 1 ∨ n = 2 ∨ n = 3 ∨ n = 4 ∨ n = 5 ∨ n = 6 ∨ n = 7 ∨ n = 8 ∨ n = 9 ∨ n = 10 ∨ n = 11 ∨ n = 12 ∨ n = 13 ∨ n = 14 ∨ n = 15 ∨ n = 16 ∨ n = 17 ∨ n = 18 ∨ n = 19 ∨ n = 20 ∨ n = 21 ∨ n = 22 ∨ n = 23 ∨ n = 24 ∨ n = 25 ∨ n = 26 ∨ n = 27 ∨ n = 28 ∨ n = 29 ∨ n = 30 ∨ n = 31 ∨ n = 32 ∨ n = 33 ∨ n = 34 ∨ n = 35 ∨ n = 36 ∨ n = 37 ∨ n = 38 ∨ n = 39 ∨ n = 40 ∨ n = 41 ∨ n = 42 ∨ n = 43 ∨ n = 44 ∨ n = 45 ∨ n = 46 ∨ n = 47 ∨ n = 48 ∨ n = 49 ∨ n = 50 ∨ n = 51 ∨ n = 52 ∨ n = 53) (w : World) : Calls Try.prog 69 #[.int .i64 n] w fun e w' => e = .returned (.int .i64 (takesT n)) ∧ w' = w := by
  rcases h with rfl | rfl | rfl | rfl | rfl | rfl | rfl | rfl | rfl | rfl | rfl | rfl | rfl | rfl | rfl | rfl | rfl | rfl | rfl | rfl | rfl | rfl | rfl | rfl | rfl | rfl | rfl | rfl | rfl | rfl | rfl | rfl | rfl | rfl | rfl | rfl | rfl | rfl | rfl | rfl | rfl | rfl | rfl | rfl | rfl | rfl | rfl | rfl | rfl | rfl | rfl | rfl | rfl
  all_goals as_aux_lemma =>
    go_enter Try.func69, Try.ntmps69
    go_wp2
    go_ret
    exact ⟨rfl, rfl⟩
theorem in_any (n : Int) (w : World) : Calls Try.prog 41 #[.int .i64 n] w fun e w' => e = .returned (sliceOf (inT n) w) ∧ w' = worldOf (inT n) w := by
  by_cases h : n < 1 ∨ 53 < n
  · exact in_no n w h
  by_cases hp : plainB n = true
  · exact in_pl n (plain_cases n hp) w
  · have hq : ¬ (3 ≤ n ∧ n ≤ 4 ∨ 11 ≤ n ∧ n ≤ 40) := by simpa [plainB] using hp
    exact in_np n (by omega) w
theorem out_any (n : Int) (w : World) : Calls Try.prog 42 #[.int .i64 n] w fun e w' => e = .returned (sliceOf (outT n) w) ∧ w' = worldOf (outT n) w := by
  by_cases h : n < 1 ∨ 53 < n
  · exact out_no n w h
  by_cases hp : plainB n = true
  · exact out_pl n (plain_cases n hp) w
  · have hq : ¬ (3 ≤ n ∧ n ≤ 4 ∨ 11 ≤ n ∧ n ≤ 40) := by simpa [plainB] using hp
    exact out_np n (by omega) w
theorem takes_any (n : Int) (w : World) : Calls Try.prog 69 #[.int .i64 n] w fun e w' => e = .returned (.int .i64 (takesT n)) ∧ w' = w := by
  by_cases h : n < 1 ∨ 53 < n
  · exact takes_no n w h
  · exact takes_in n (op_cases n h) w
end Go.Proofs.Ytnidakplcaanfaa
