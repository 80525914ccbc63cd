/- The law WireRow, walked. -/
import Derived.Test.YtjnmgnnaefiegabDoorLRot
import Derived.Deep.RegionLaw
import Derived.Shelf.Abstract
namespace Go.Proofs.YtjnmgnnaefiegabDoor
open Go.RowKit

/-- At ao there lie slices of bytes. -/
def Bss (w : World) (ao : Option Addr) (L : List (List UInt8)) : Prop :=
  L = [] ∨ ∃ b off, ao = some ⟨b, off, none⟩ ∧ ∀ j (h : j < L.length), ∃ aj cj, w.cell? ⟨b, off + j, none⟩ = some (.slice aj L[j].length cj) ∧ Bs w aj L[j]
theorem Bss.keep {w w' : World} {ao : Option Addr} {L : List (List UInt8)} (h : Bss w ao L) (hk : ∀ a v, w.cell? a = some v → w'.cell? a = some v) : Bss w' ao L := by
  rcases h with h | ⟨b, off, h, hc⟩
  · exact .inl h
  · refine .inr ⟨b, off, h, fun j hj => ?_⟩
    obtain ⟨aj, cj, h1, h2⟩ := hc j hj
    exact ⟨aj, cj, hk _ _ h1, h2.keep hk⟩
def flat (L : List (List UInt8)) : List UInt8 := L.flatMap frameOf
theorem flat_snoc (L : List (List UInt8)) (k : Nat) (h : k < L.length) : flat (L.take (k + 1)) = flat (L.take k) ++ frameOf L[k] := by
  unfold flat
  rw [List.take_succ_eq_append_getElem h, List.flatMap_append, List.flatMap_singleton]

theorem frames_eq (ao : Option Addr) (len cap : Nat) (bs : List UInt8) (w : World) (L : List (List UInt8)) (n : Nat) (hF : framesOf bs = (L, n)) (hl : bs.length = len) (hm : 3 * len ≤ 140737488355328) (hcap : len ≤ cap) (hcm : cap ≤ maxLen) (hb : Bs w ao bs) (ht : Tab w) :
    Calls Tryd.prog 9 #[.slice ao len cap] w fun e w' => ∃ v gs, e = .returned (.tuple #[v, .int .i64 (n : Nat)]) ∧ Rows2 w' w.heap.size v gs L ∧ Below w.heap.size w w' := by
  have := frames_any ao len cap bs w hl hm hcap hcm hb ht
  rw [hF] at this
  exact this
/-- Each slice of such a row. -/
theorem Rows2.at {w : World} {base : Nat} {v : Value} {gs : List Nat} {L : List (List UInt8)} (h : Rows2 w base v gs L) : ∃ ao cap, v = .slice ao L.length cap ∧ ∀ k (hk : k < L.length), ∃ g g', ao = some ⟨g, 0, none⟩ ∧ w.cell? ⟨g, k, none⟩ = some (.slice (some ⟨g', 0, none⟩) L[k].length L[k].length) ∧ Bs w (some ⟨g', 0, none⟩) L[k] := by
  obtain ⟨ao, cap, hv, h1, h2, h3, h4, h5⟩ := Own.form h.row
  have hz : (List.zipWith (fun g (b : List UInt8) => sl g b.length) gs L).length = L.length := by simp [h.len]
  rw [hz] at hv h1
  refine ⟨ao, cap, hv, fun k hk => ?_⟩
  have hkg : k < gs.length := by rw [h.len]; exact hk
  cases ao with
  | none => have := h4 rfl; omega
  | some a =>
    obtain ⟨g, rfl, hc⟩ := h5 a rfl
    refine ⟨g, gs[k], rfl, ?_, ?_⟩
    · exact hc k _ (by rw [List.getElem?_eq_getElem (by rw [hz]; exact hk), List.getElem_zipWith]; rfl)
    · obtain ⟨ao', cap', hv', _, _, hB, _, _⟩ := Own.bs (h.each k hk hkg)
      unfold sl at hv'
      simp only [Value.slice.injEq] at hv'
      rw [hv'.1]
      exact hB
/-- A call of a Go function as one step of a region that draws. -/
theorem step_call {P : Program} {ops : Array Oper} {o : Oper} {a : Act} {w : World} {K : Act → World → Prop} {Q : Exit → Act → World → Prop} {X : Prop} (hgd : o.guard = none) (f : FuncId) (xs : Array Operand) (ts : Array TypeId)
    (ho : o.op = .call { callee := .value (.func f), args := xs, argTypes := ts }) (eg : ∀ args w, (callFunc f args).run P w = .ok (.enter f args) w) (args : Array Value) (hargs0 : xs.toList.map a.eval = args.toList) (post : Ending → World → Prop)
    (h : Calls P f args w post) (hp : ∀ e w', post e w' → ∃ v, e = .returned v ∧ K (a.put o.dst v) w') : if Region.wanted o (yielded ops a.tmps) = true then Oper.wp P o a w K Q else X := by
  have hw : Region.wanted o (yielded ops a.tmps) = true := by simp [Region.wanted, hgd]
  have hargs : xs.map a.eval = args := by
    apply Array.toList_inj.1
    rw [Array.toList_map]
    exact hargs0
  rw [if_pos hw]
  unfold Oper.wp
  have e1 : (execOp a.eval o).run P w = .ok (.enter f args) w := by
    unfold execOp
    simp [ho, resolve, invoke, go_sem, eg, hargs]
  rw [e1]
  refine h.mono fun e w' hpost => ?_
  obtain ⟨v, rfl, hk⟩ := hp e w' hpost
  exact hk

set_option maxHeartbeats 4000000 in
theorem wireRow_walk (aL aB : Option Addr) (nL cL nB cB : Nat) (L : List (List UInt8)) (bs : List UInt8) (cut : Int) (w : World)
    (hlL : L.length = nL) (hlB : bs.length = nB) (hmL : nL ≤ 140737488351232) (hmB : nB ≤ 140737488351232) (hrL : ∀ j (h : j < L.length), L[j].length ≤ 140737488351232)
    (hL : Bss w aL L) (hB : Bs w aB bs) (ht : Tab w) :
    Calls Tryd.prog 3 #[.slice aL nL cL, .slice aB nB cB, .int .i64 cut] w fun e w' => e = .returned (.bool true) ∧ Below w.heap.size w w' := by
  go_enter Tryd.func3, Tryd.ntmps3
  go_wp2
  go_loopw [7, 8] (fun v i wr => ∃ k : Nat, k ≤ nL ∧ i = .int .i64 k ∧ OwnB wr w.heap.size v (flat (L.take k)) ∧ (flat (L.take k)).length ≤ 2097160 ∧ (∀ j (h : j < L.length), j < k → L[j].length ≤ 1048576) ∧ Below w.heap.size w wr) (fun _ i _ => nL - (intOf i).toNat)
  case atStart => exact ⟨0, Nat.zero_le _, rfl, Own.nil _ _ _, by simp [flat], (fun _ _ h => by omega), Below.refl _ _⟩
  case round =>
    obtain ⟨k, hk, rfl, hO, hfl, hsh, hbl⟩ := hrel
    by_cases hlt : k < nL
    · have HS : Hid (flat (L.take (k + 1)) = flat (L.take k) ++ frameOf (L[k]'(by omega))) := hid (flat_snoc _ _ (by omega))
      have hck : ∃ b off aj cj, aL = some ⟨b, off, none⟩ ∧ wr.cell? ⟨b, off + k, none⟩ = some (.slice aj (L[k]'(by omega)).length cj) ∧ Bs wr aj (L[k]'(by omega)) := by
        rcases hL.keep (below_keep hbl) with h0 | ⟨b, off, hao, hc⟩
        · subst h0; simp at hlL; omega
        · obtain ⟨aj, cj, h1, h2⟩ := hc k (by omega)
          exact ⟨b, off, aj, cj, hao, h1, h2⟩
      obtain ⟨b, off, aj, cj, rfl, hck, hBk⟩ := hck
      have hrk := hrL k (by omega)
      have hsh1 : (L[k]'(by omega)).length ≤ 1048576 → ∀ j (h : j < L.length), j < k + 1 → L[j].length ≤ 1048576 := fun hx j hj hjm => by
        by_cases e : j = k
        · subst e; exact hx
        · exact hsh j hj (by omega)
      generalize L[k]'(by omega) = x at hck HS hBk hrk hsh1
      generalize flat (L.take k) = xs at hO HS hfl
      have htk := ht.keep (below_keep hbl)
      by_cases hbig : 1048576 < x.length
      · clear hsh hsh1 hL hB hrL
        go_wp2_with fail
        refine (frame_big aj x.length cj wr hbig (by omega)).mono ?_
        rintro e w2 ⟨rfl, hw⟩
        subst hw
        go_wp2_with (first | (go_at_call 7; refine (num_any _ _).mono ?_; rintro e w' ⟨rfl, hw⟩; subst hw) | (go_at_call 8; refine (knows_any _ htk).mono ?_; rintro e w' ⟨rfl, hb3⟩))
        go_ret
        exact ⟨rfl, hbl.trans (hb3.mono hbl.size)⟩
      · have hsh2 : Hid (∀ j (h : j < L.length), j < k + 1 → L[j].length ≤ 1048576) := hsh1 (by omega)
        clear hsh hsh1 hL hB hrL
        go_wp2_with fail
        refine (frame_any aj x.length cj x wr rfl (by omega) hBk htk).mono ?_
        rintro e w2 ⟨v2, rfl, hO2, hb2⟩
        have hO' := Own.below hO hb2
        have hbl2 := hbl.trans (hb2.mono hbl.size)
        have ht2 := ht.keep (below_keep hbl2)
        have hF := frameOf_length x
        obtain ⟨ao2, cap2, hv2, _, _, hB2, _, _⟩ := Own.bs hO2
        have hS2 := src_bs (P := Tryd.prog) w2 Tryd.underlying23 hB2 cap2
        obtain ⟨ao1, cap1, hv1, _, _, _, _, _⟩ := Own.bs hO'
        subst hv1
        subst hv2
        clear hB2 hO2 hb2 hbl hBk hck htk hO
        by_cases hfull : 1048576 < xs.length
        · go_wp2_with (first | (go_at_call 7; refine (num_any _ _).mono ?_; rintro e w' ⟨rfl, hw⟩; subst hw) | (go_at_call 8; refine (knows_any _ ht2).mono ?_; rintro e w' ⟨rfl, hb3⟩))
          go_ret
          exact ⟨rfl, hbl2.trans (hb3.mono hbl2.size)⟩
        · generalize hfx : frameOf x = fx at *
          have HS' : Hid (flat (L.take (k + 1)) = xs ++ fx) := hid (HS.out)
          have hFl : fx.length ≤ 1048584 := by omega
          clear HS hfx hF
          go_wp2_with (first | (go_at_call 7; refine (num_any _ _).mono ?_; rintro e w' ⟨rfl, hw⟩; subst hw) | (at_builtin; refine wpList_app _ rfl _ _ _ _ rfl elem_u8 w.heap.size _ _ rfl hO' _ rfl (fx.map bv) hS2 (by simp only [List.length_map]; unfold maxLen; omega) (by simp only [List.length_map]; omega) hbl2.size ?_))
          intro v3 w3 hO3 hs3
          have hb3 : Below w.heap.size w w3 := hbl2.trans (hs3.below hbl2.size (fun k h => (hO'.lt k h).1))
          rw [← List.map_append] at hO3
          have hO4 : OwnB w3 w.heap.size v3 (flat (L.take (k + 1))) := by rw [HS'.out]; exact hO3
          have hl4 : (flat (L.take (k + 1))).length ≤ 2097160 := by rw [HS'.out, List.length_append]; omega
          clear hs3 hO3 hO' hS2
          go_wp2
          go_roundw
          case rel => exact ⟨k + 1, by omega, by go_num, hO4, hl4, hsh2.out, hb3⟩
          case measure => simp [intOf]; omega
    · have HE : L.take k = L := List.take_of_length_le (by omega)
      rw [HE] at hO hfl
      have hall : Hid (∀ j (h : j < L.length), L[j].length ≤ 1048576) := hid (fun j h => hsh j h (by omega))
      clear HE hsh
      have htk := ht.keep (below_keep hbl)
      have hBk := hB.keep (below_keep hbl)
      by_cases hbig : 1048576 < nB
      · go_wp2_with fail
        refine (frame_big aB nB cB wr hbig (by omega)).mono ?_
        rintro e w2 ⟨rfl, hw⟩
        subst hw
        go_wp2_with (first | (go_at_call 7; refine (num_any _ _).mono ?_; rintro e w' ⟨rfl, hw⟩; subst hw) | (go_at_call 8; refine (knows_any _ htk).mono ?_; rintro e w' ⟨rfl, hb3⟩))
        go_ret
        exact ⟨rfl, hbl.trans (hb3.mono hbl.size)⟩
      · go_wp2_with fail
        refine (frame_any aB nB cB bs wr hlB (by omega) hBk htk).mono ?_
        rintro e w2 ⟨v2, rfl, hO2, hb2⟩
        have hO1 := Own.below hO hb2
        have hbl2 := hbl.trans (hb2.mono hbl.size)
        have hF := frameOf_length bs
        rw [hlB] at hF
        obtain ⟨ao2, cap2, hv2, hle2, hmx2, hB2, _, hn2⟩ := Own.bs hO2
        rw [hF] at hv2
        obtain ⟨ao1, cap1, hv1, hle1, hmx1, hB1, _, _⟩ := Own.bs hO1
        subst hv1
        subst hv2
        clear hb2 hbl hBk htk hO
        obtain ⟨j, hj, ej⟩ := turn_len cut nB (by omega)
        have ej2 : (wrap64 (cut.tmod (8 + (nB : Int)) + (8 + (nB : Int)))).tmod (8 + (nB : Int)) = j := by rw [show (8 : Int) + nB = nB + 8 by omega]; exact ej
        obtain ⟨g2, cur2, rfl, _, _⟩ := own_block hO2 (by omega)
        have hBj : Bs w2 (some ⟨g2, 0, none⟩) ((frameOf bs).take j) := by
          rcases hB2 with h0 | ⟨b, off, h0, hc⟩
          · left; rw [h0]; simp
          · cases h0
            simpa using Bs.cut hc 0 j
        have hlj : ((frameOf bs).take j).length = j := by rw [List.length_take]; omega
        have HR : Hid (framesOf (flat L ++ (frameOf bs).take j) = (L, (flat L).length)) := hid (framesOf_row L _ (fun b hb => by obtain ⟨i, hi, rfl⟩ := List.getElem_of_mem hb; exact hall.out i hi) (firstOf_cut bs (by omega) j (by omega)))
        generalize (frameOf bs).take j = fj at *
        generalize hfL : flat L = fl at *
        clear hB2 hO2 hn2 ej
        go_wp2_with (first | (go_at_call 7; refine (num_any _ _).mono ?_; rintro e w' ⟨rfl, hw⟩; subst hw))
        have hbd : Below w.heap.size w w'.drew := hbl2.drew
        have hba : Below w.heap.size w (w'.drew.alloc (.cells #[] 5)) := hbd.alloc hbd.size _
        have hka : ∀ a v, w'.cell? a = some v → (w'.drew.alloc (.cells #[] 5)).cell? a = some v := below_keep ((Below.refl w'.heap.size w').drew.alloc (Nat.le_refl _) _)
        have hOe : Own (w'.drew.alloc (.cells #[] 5)) w'.heap.size 5 (.slice (some ⟨w'.heap.size, 0, none⟩) 0 0) [] := World.ownsRow_lit w'.drew #[] 0 (Nat.le_refl _) (Nat.zero_le _) rfl
        have hSe := src_bs (P := Tryd.prog) _ Tryd.underlying23 (hB1.keep hka) cap1
        have hlw : w.heap.size ≤ w'.heap.size := hbl2.size
        have hjc : j ≤ cap2 := by omega
        go_region_law (first
          | (refine step_app _ (by rfl) (.tmp 70) (.tmp 71) _ _ (by rfl) elem_u8 w'.heap.size (.slice (some ⟨w'.heap.size, 0, none⟩) 0 0) [] (by rfl) (by exact hOe) _ (by rfl) (fl.map bv) (by exact hSe) (by simp only [List.length_map, List.length_nil]; unfold maxLen; omega) (by simp only [List.length_map, List.length_nil]; omega) (by simp) ?_
             intro v3 w3 hO3 hs3
             have hb3 : Below w'.heap.size w' w3 := ((Below.refl w'.heap.size w').drew.alloc (Nat.le_refl _) _).trans (hs3.below (by simp) (fun k h => (hOe.lt k h).1))
             have hSj := src_bs (P := Tryd.prog) w3 Tryd.underlying23 (hBj.keep (below_keep hb3)) cap2
             rw [hlj] at hSj
             rw [List.nil_append] at hO3)
          | (refine step_app _ (by rfl) (.tmp 72) (.tmp 75) _ _ (by rfl) elem_u8 w'.heap.size v3 _ (by rfl) (by exact hO3) _ (by rfl) (fj.map bv) (by exact hSj) (by simp only [List.length_map]; unfold maxLen; omega) (by simp only [List.length_map]; omega) (by have := hb3.size; omega) ?_
             intro v4 w4 hO4 hs4
             have hb4 : Below w'.heap.size w' w4 := hb3.trans (hs4.below hb3.size (fun k h => (hO3.lt k h).1))
             rw [← List.map_append] at hO4
             obtain ⟨ao4, cap4, hv4, hle4, hmx4, hB4, _, _⟩ := Own.bs hO4
             have hl4 : (fl ++ fj).length = fl.length + j := by rw [List.length_append, hlj]
             rw [hl4] at hv4 hle4
             subst hv4)
          | (refine step_call (by rfl) 9 _ _ (by rfl) (Go.Proofs.enters_of Tryd.func9 (by kernel_rfl) rfl) _ (by rfl) _ (frames_eq ao4 _ cap4 (fl ++ fj) _ L fl.length HR.out hl4 (by omega) hle4 hmx4 hB4 (ht.keep (below_keep (hbl2.trans (hb4.mono hlw))))) ?_
             rintro e w5 ⟨v5, gs, rfl, hR5, hb5⟩
             refine ⟨_, rfl, ?_⟩))
        have hb5' : Below w.heap.size w w5 := (hbl2.trans (hb4.mono hlw)).trans (hb5.mono (Nat.le_trans hlw hb4.size))
        obtain ⟨ao5, cap5, hv5, hat5⟩ := hR5.at
        rw [hlL] at hv5
        subst hv5
        clear hO3 hs3 hb3 hSj hO4 hs4 hb4 hB4 hl4 hR5 hSe hOe hka hba hbd hBj hB1 hO1 hbl2 hb5 hle4 hB
        have hne1 : ((nL : Int) != (nL : Int)) = false := by simp
        have hne2 : ((fl.length : Int) != (fl.length : Int)) = false := by simp
        go_wp2
        go_loopw [15] (fun i wr => ∃ k : Nat, k ≤ nL ∧ i = .int .i64 k ∧ Below w5.heap.size w5 wr) (fun i _ => nL - (intOf i).toNat)
        case atStart => exact ⟨0, Nat.zero_le _, rfl, Below.refl _ _⟩
        case round =>
          obtain ⟨k, hk, rfl, hbk⟩ := hrel
          have hbw := hb5'.trans (hbk.mono hb5'.size)
          by_cases hlt : k < nL
          · obtain ⟨g, g', rfl, hcm, hBm⟩ := hat5 k (by omega)
            have hck : ∃ b off aj cj, aL = some ⟨b, off, none⟩ ∧ wr.cell? ⟨b, off + k, none⟩ = some (.slice aj (L[k]'(by omega)).length cj) ∧ Bs wr aj (L[k]'(by omega)) := by
              rcases hL.keep (below_keep hbw) with h0 | ⟨b, off, hao, hc⟩
              · subst h0; simp at hlL; omega
              · obtain ⟨aj, cj, h1, h2⟩ := hc k (by omega)
                exact ⟨b, off, aj, cj, hao, h1, h2⟩
            obtain ⟨b, off, aj, cj, rfl, hck, hBk⟩ := hck
            have hcm' := below_keep hbk _ _ hcm
            have hBm' := hBm.keep (below_keep hbk)
            generalize L[k]'(by omega) = x at hck hBk hcm' hBm'
            have s1 : ∀ n, (convert 23 9 (.slice aj x.length cj)).run Tryd.prog (wr.drewN n) = .ok (.string ⟨x.toArray⟩) (wr.drewN n) := fun n => run_str (hBk.keep (fun a v h => by simpa using h)) cj
            have s2 : ∀ n, (convert 23 9 (.slice (some ⟨g', 0, none⟩) x.length x.length)).run Tryd.prog (wr.drewN n) = .ok (.string ⟨x.toArray⟩) (wr.drewN n) := fun n => run_str (hBm'.keep (fun a v h => by simpa using h)) x.length
            clear hcm hBm hBk hBm' hat5 hL
            go_wp2
            go_quiet (fail)
            go_wp2
            go_roundw
            case rel => exact ⟨k + 1, by omega, by go_num, below_drewN hbk _⟩
            case measure => simp [intOf]; omega
          · have ht5 := ht.keep (below_keep hbw)
            clear hat5 hL
            go_wp2_with (go_at_call 8; refine (knows_any _ ht5).mono ?_; rintro e w8 ⟨rfl, hb8⟩)
            go_ret
            exact ⟨rfl, hbw.trans (hb8.mono hbw.size)⟩
end Go.Proofs.YtjnmgnnaefiegabDoor
