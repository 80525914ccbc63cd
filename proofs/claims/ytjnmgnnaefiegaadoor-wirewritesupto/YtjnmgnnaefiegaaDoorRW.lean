/- What ref's Writer does. -/
import Derived.Test.YtjnmgnnaefiegaaDoorWW
import Derived.Test.YtjnmgnnaefiegaaDoorWR
import Derived.Test.YtjnmgnnaefiegaaDoorNums
import Derived.Deep.RegionLaw
namespace Go.Proofs.YtjnmgnnaefiegaaDoor
open Go.RowKit

/-- ref's Writer at q. -/
structure RwE (w : World) (q : Nat) (v : Value) : Prop where
  hq : w.heap[q]? = some (.cells #[v] 28 (0, 0))
theorem RwE.chg {w w' : World} {q : Nat} {v : Value} {S : Nat → Prop} (H : RwE w q v) (k : Chg w w' S) (h : ¬ S q) : RwE w' q v :=
  ⟨by rw [k.block q (lt_of_block H.hq) h]; exact H.hq⟩
theorem RwE.apart {w : World} {q base : Nat} {v u : Value} {bs : List UInt8} (H : RwE w q v) (o : OwnB w base u bs) : u.ownBlock ≠ some q := by
  rcases o.2 with ⟨h, _⟩ | ⟨g, cap, cur, h, _, hg, _⟩
  · rw [h]; intro e; cases e
  · rw [h]
    intro e
    cases e
    have := H.hq
    rw [hg] at this
    cases this
theorem RwE.set {w : World} {q : Nat} {v : Value} (H : RwE w q v) (u : Value) : RwE (w.setCell ⟨q, 0, none⟩ u) q u := by
  have hlt := lt_of_block H.hq
  have h' : w.heap[q] = .cells #[v] 28 (0, 0) := by have := H.hq; simpa [Array.getElem?_eq_getElem hlt] using this
  refine ⟨?_⟩
  show (w.heap.modify q _)[q]? = _
  rw [Array.getElem?_eq_getElem (by simpa using hlt), Array.getElem_modify_self, h']
  rfl
theorem RwE.cell {w : World} {q : Nat} {v : Value} (H : RwE w q v) : w.cell? ⟨q, 0, none⟩ = some v ∧ w.frozen? ⟨q, 0, none⟩ = false := by
  refine ⟨cell_of_one H.hq, by simp [World.frozen?, H.hq]⟩

def RTold (q base : Nat) (v : Value) (out : Int × List UInt8) (w : World) (e : Ending) (w' : World) : Prop :=
  ∃ v', e = .returned (.int .i64 out.1) ∧ RwE w' q v' ∧ OwnB w' base v' out.2 ∧ WStep q w v w' v'

set_option maxHeartbeats 2000000 in
theorem rmore_all (q base : Nat) (v : Value) (xs : List UInt8) (ao : Option Addr) (n cap : Nat) (ys : List UInt8) (w : World) (H : RwE w q v) (hO : OwnB w base v xs) (hbase : base ≤ w.heap.size) (hl : xs.length ≤ 1048576) (hn : ys.length = n) (hB : Bs w ao ys) :
    Calls Tryd.prog 44 #[.pointer (some ⟨q, 0, none⟩), .slice ao n cap] w (RTold q base v (moreOut ys xs) w) := by
  obtain ⟨ao0, cap0, rfl, hle0, hmx0, hB0, _, _⟩ := Own.bs hO
  obtain ⟨c0, f0⟩ := H.cell
  by_cases hroom : 1048576 < xs.length + n
  · have HR : Hid (RTold q base (.slice ao0 xs.length cap0) (moreOut ys xs) w (.returned (.int .i64 6)) w) := hid (by
      unfold moreOut
      rw [hn, if_pos hroom]
      exact ⟨_, rfl, H, hO, WStep.refl _ _ _⟩)
    go_enter Tryd.func44, Tryd.ntmps44
    go_wp2
    go_ret
    exact HR.out
  · have hS := src_bs (P := Tryd.prog) w Tryd.underlying26 hB cap
    rw [hn] at hS
    go_enter Tryd.func44, Tryd.ntmps44
    go_wp2_with (at_builtin; go_loud (refine wpList_app _ rfl (.tmp 18) (.tmp 19) _ _ rfl elem_u8 base _ _ rfl hO _ rfl (ys.map bv) hS (by simp only [List.length_map]; unfold maxLen; omega) (by simp only [List.length_map]; omega) hbase ?_))
    intro v1 w1 ho1 hs1
    rw [← List.map_append] at ho1
    have hap := H.apart hO
    have H1 : RwE w1 q (.slice ao0 xs.length cap0) := H.chg (Chg.of_grown hs1.1) (fun e => hap e)
    obtain ⟨ao1, cap1, hv1, _, _, _, _, _⟩ := Own.bs ho1
    have hl1 : (xs ++ ys).length = xs.length + n := by rw [List.length_append, hn]
    rw [hl1] at hv1
    subst hv1
    obtain ⟨c1, f1⟩ := H1.cell
    have hap1 := H1.apart ho1
    have HR : Hid (RTold q base (.slice ao0 xs.length cap0) (moreOut ys xs) w (.returned (.int .i64 0)) (w1.setCell ⟨q, 0, none⟩ (.slice ao1 (xs.length + n) cap1))) := hid (by
      unfold moreOut
      rw [hn, if_neg hroom]
      exact ⟨_, rfl, H1.set _, ownsRow_setCell_other ho1 hap1 _, (WStep.of_step hs1).trans (WStep.setCell q 0 w1 _ _)⟩)
    clear ho1 hs1 hO H c0 f0
    go_wp2
    go_ret
    exact HR.out

theorem RTold.after {q base : Nat} {v : Value} {out : Int × List UInt8} {w wr : World} {e : Ending} {w' : World} (hb : Below w.heap.size w wr) (R : RTold q base v out wr e w') : RTold q base v out w e w' := by
  obtain ⟨v', h1, h2, h3, h4⟩ := R
  exact ⟨v', h1, h2, h3, WStep.trans ⟨Chg.of_below hb, .inl rfl⟩ h4⟩
theorem RTold.no {q base : Nat} {v : Value} {xs : List UInt8} {w w' : World} (H : RwE w q v) (hO : OwnB w base v xs) (hb : Below w.heap.size w w') (c : Int) : RTold q base v (c, xs) w (.returned (.int .i64 c)) w' :=
  ⟨v, rfl, H.chg (Chg.of_below (S := fun _ => False) hb) id, Own.below hO hb, Chg.of_below hb, .inl rfl⟩

set_option maxHeartbeats 2000000 in
theorem rbyteW_all (q base : Nat) (v : Value) (xs : List UInt8) (ao : Option Addr) (n cap : Nat) (ns : List Int) (w : World) (H : RwE w q v) (hO : OwnB w base v xs) (hbase : base ≤ w.heap.size) (hl : xs.length ≤ 1048576) (hn : ns.length = n) (hm : n ≤ 1048576) (hI : Is w ao ns) :
    Calls Tryd.prog 13 #[.pointer (some ⟨q, 0, none⟩), .slice ao n cap] w (RTold q base v (byteOut ns xs) w) := by
  go_enter Tryd.func13, Tryd.ntmps13
  go_wp2
  go_loopw [5, 6] (fun u i wr => ∃ k : Nat, k ≤ n ∧ i = .int .i64 k ∧ OwnB wr w.heap.size u (byts (ns.take k)) ∧ Below w.heap.size w wr ∧ (ns.take k).any badByte = false) (fun _ i _ => n - (intOf i).toNat)
  case atStart => exact ⟨0, Nat.zero_le _, rfl, Own.nil _ _ _, Below.refl _ _, by simp⟩
  case round =>
    obtain ⟨k, hk, rfl, hb, hbl, hgood⟩ := hrel
    by_cases hlt : k < n
    · rcases hI.keep (below_keep hbl) with hS0 | ⟨b, off, rfl, hc⟩
      · subst hS0; simp at hn; omega
      · have hck := hc k (by omega)
        have HS : Hid (byts (ns.take (k + 1)) = byts (ns.take k) ++ [UInt8.ofNat (ns[k]'(by omega)).toNat]) := hid (byts_snoc _ _ (by omega))
        have HT : Hid ((ns.take (k + 1)).any badByte = ((ns.take k).any badByte || badByte (ns[k]'(by omega)))) := hid (by rw [List.take_succ_eq_append_getElem (by omega), List.any_append]; simp)
        have HA : Hid (badByte (ns[k]'(by omega)) = true → ns.any badByte = true) := hid (fun h => List.any_eq_true.2 ⟨_, List.getElem_mem _, h⟩)
        have hlk : (byts (ns.take k)).length = k := by rw [byts_length, List.length_take]; omega
        generalize ns[k]'(by omega) = N at hck HS HT HA
        generalize byts (ns.take k) = ys at hb HS hlk
        cases hN : badByte N with
        | true =>
          have HR : Hid (RTold q base v (byteOut ns xs) w (.returned (.int .i64 11)) wr) := hid (by unfold byteOut; rw [if_pos (HA.out hN)]; exact RTold.no H hO hbl 11)
          have hor : N < 0 ∨ 255 < N := by
            unfold badByte at hN
            simpa using hN
          clear hN hc hI HS HT HA hb hgood
          by_cases hneg : N < 0
          · have d1 : decide (N < 0) = true := by simp; omega
            go_wp2
            go_ret
            exact HR.out
          · have d1 : decide (N < 0) = false := by simp; omega
            have d2 : decide (255 < N) = true := by simp; omega
            go_wp2
            go_ret
            exact HR.out
        | false =>
          obtain ⟨ha1, ha2⟩ := badByte_false.1 hN
          have d1 : decide (N < 0) = false := by simp; omega
          have d2 : decide (255 < N) = false := by simp; omega
          have HG : Hid ((ns.take (k + 1)).any badByte = false) := hid (by rw [HT.out, hN, hgood]; rfl)
          have hbv : Hid (N = (((UInt8.ofNat N.toNat).toNat : Nat) : Int)) := hid (by rw [UInt8.toNat_ofNat']; omega)
          generalize UInt8.ofNat N.toNat = X at hbv HS
          clear hN hc hI HT HA hgood
          go_wp2_with (at_builtin; go_loud (refine wpList_app _ rfl _ _ _ _ rfl elem_u8 w.heap.size _ _ rfl (Own.alloc hb _) _ rfl [bv X] (src_one _ Tryd.underlying26 _ _ _ (by show Value.int .u8 N = Value.int .u8 _; rw [← hbv.out]) rfl _) (by simp only [List.length_map, List.length_singleton, hlk]; unfold maxLen; omega) (by simp only [List.length_map, List.length_singleton, hlk]; omega) (by have := hbl.size; simp; omega) ?_))
          intro v1 w1 ho1 hs1
          rw [show [bv X] = [X].map bv from rfl, ← List.map_append] at ho1
          have R1 : OwnB w1 w.heap.size v1 (byts (ns.take (k + 1))) := by rw [HS.out]; exact ho1
          have R2 : Below w.heap.size w w1 := (hbl.alloc hbl.size _).trans (hs1.below (by have := hbl.size; simp; omega) (fun k h => (hb.lt k h).1))
          clear ho1 hs1 hb hbl hbv
          go_wp2
          go_roundw
          case rel => exact ⟨k + 1, by omega, by go_num, R1, R2, HG.out⟩
          case measure => simp [intOf]; omega
    · have HE : ns.take k = ns := List.take_of_length_le (by omega)
      rw [HE] at hb hgood
      obtain ⟨a1, c1, hv1, _, _, hB1, _, _⟩ := Own.bs hb
      rw [byts_length, hn] at hv1
      subst hv1
      have HO : Hid (byteOut ns xs = moreOut (byts ns) xs) := hid (by unfold byteOut; rw [if_neg (by rw [hgood]; decide)])
      clear HE hgood
      go_wp2_with fail
      refine (rmore_all q base v xs a1 n c1 (byts ns) wr (H.chg (Chg.of_below (S := fun _ => False) hbl) id) (Own.below hO hbl) (Nat.le_trans hbase hbl.size) hl (by rw [byts_length]; exact hn) hB1).mono ?_
      intro e w2 R
      have R' := R.after hbl
      rw [← HO.out] at R'
      have HR : Hid _ := hid R'
      obtain ⟨v2, rfl, _⟩ := R'
      clear R
      go_wp2
      go_ret
      exact HR.out

set_option maxHeartbeats 2000000 in
theorem rintW_all (q base : Nat) (v : Value) (xs : List UInt8) (ao : Option Addr) (n cap : Nat) (ns : List Int) (w : World) (H : RwE w q v) (hO : OwnB w base v xs) (hbase : base ≤ w.heap.size) (hl : xs.length ≤ 1048576) (hn : ns.length = n) (hm : n ≤ 1048576) (hI : Is w ao ns) :
    Calls Tryd.prog 15 #[.pointer (some ⟨q, 0, none⟩), .slice ao n cap] w (RTold q base v (intOut ns xs) w) := by
  go_enter Tryd.func15, Tryd.ntmps15
  go_wp2
  go_loopw [5, 6] (fun u i wr => ∃ k : Nat, k ≤ n ∧ i = .int .i64 k ∧ OwnB wr w.heap.size u (ints (ns.take k)) ∧ Below w.heap.size w wr) (fun _ i _ => n - (intOf i).toNat)
  case atStart => exact ⟨0, Nat.zero_le _, rfl, Own.nil _ _ _, Below.refl _ _⟩
  case round =>
    obtain ⟨k, hk, rfl, hb, hbl⟩ := hrel
    by_cases hlt : k < n
    · rcases hI.keep (below_keep hbl) with hS0 | ⟨b, off, rfl, hc⟩
      · subst hS0; simp at hn; omega
      · have hck := hc k (by omega)
        have HS : Hid (ints (ns.take (k + 1)) = ints (ns.take k) ++ be64 (ns[k]'(by omega))) := hid (ints_snoc _ _ (by omega))
        have hlk : (ints (ns.take k)).length = 8 * k := by rw [ints_length, List.length_take]; congr 1; omega
        generalize ns[k]'(by omega) = N at hck HS
        generalize ints (ns.take k) = ys at hb HS hlk
        clear hc hI
        go_wp2_with fail
        refine (refNumber_any N wr).mono ?_
        rintro e w1 ⟨v1, rfl, hO1, hb1⟩
        have hb' : OwnB w1 w.heap.size _ ys := Own.below hb hb1
        have hbl1 := hbl.trans (hb1.mono hbl.size)
        obtain ⟨a1, c1, hv1, _, _, hB1, _, _⟩ := Own.bs hO1
        have hS1 := src_bs (P := Tryd.prog) w1 Tryd.underlying26 hB1 c1
        rw [be64_length] at hv1 hS1
        subst hv1
        have h8 := be64_length N
        clear hb hb1 hbl hO1 hB1
        go_wp2_with (at_builtin; go_loud (refine wpList_app _ rfl _ _ _ _ rfl elem_u8 w.heap.size _ _ rfl hb' _ rfl ((be64 N).map bv) hS1 (by simp only [List.length_map, hlk, h8]; unfold maxLen; omega) (by simp only [List.length_map, hlk, h8]; omega) hbl1.size ?_))
        intro v2 w2 ho2 hs2
        rw [← List.map_append] at ho2
        have R1 : OwnB w2 w.heap.size v2 (ints (ns.take (k + 1))) := by rw [HS.out]; exact ho2
        have R2 : Below w.heap.size w w2 := hbl1.trans (hs2.below hbl1.size (fun k h => (hb'.lt k h).1))
        clear ho2 hs2 hb' hbl1 hS1 h8
        go_wp2
        go_roundw
        case rel => exact ⟨k + 1, by omega, by go_num, R1, R2⟩
        case measure => simp [intOf]; omega
    · have HE : ns.take k = ns := List.take_of_length_le (by omega)
      rw [HE] at hb
      obtain ⟨a1, c1, hv1, _, _, hB1, _, _⟩ := Own.bs hb
      have hli : (ints ns).length = 8 * n := by rw [ints_length, hn]
      rw [hli] at hv1
      subst hv1
      have HO : Hid (intOut ns xs = moreOut (ints ns) xs) := hid rfl
      clear HE
      go_wp2_with fail
      refine (rmore_all q base v xs a1 (8 * n) c1 (ints ns) wr (H.chg (Chg.of_below (S := fun _ => False) hbl) id) (Own.below hO hbl) (Nat.le_trans hbase hbl.size) hl hli hB1).mono ?_
      intro e w2 R
      have R' := R.after hbl
      rw [← HO.out] at R'
      have HR : Hid _ := hid R'
      obtain ⟨v2, rfl, _⟩ := R'
      clear R
      go_wp2
      go_ret
      exact HR.out

set_option maxHeartbeats 2000000 in
theorem rtextOne (s : List UInt8) (w : World) (hs : s.length ≤ 65535) :
    Calls Tryd.prog 47 #[.string ⟨s.toArray⟩] w fun e w' => ∃ v', e = .returned v' ∧ OwnB w' w.heap.size v' (text s) ∧ Below w.heap.size w w' := by
  have hO1 : OwnB (w.alloc (.cells #[.int .u8 ((s.length : Int) / 256), .int .u8 ((s.length : Int) % 256)] 5)) w.heap.size (.slice (some ⟨w.heap.size, 0, none⟩) 2 2) (be s.length 2) := by
    have e : (be s.length 2).map bv = [.int .u8 ((s.length : Int) / 256), .int .u8 ((s.length : Int) % 256)] := by
      simp only [be, List.range, List.range.loop, List.map_cons, List.map_nil, bv, UInt8.toNat_ofNat']
      simp
      omega
    unfold OwnB
    rw [e]
    exact World.ownsRow_lit w #[.int .u8 ((s.length : Int) / 256), .int .u8 ((s.length : Int) % 256)] 2 (Nat.le_refl _) (by decide) rfl
  have hba : Below w.heap.size w (w.alloc (.cells #[.int .u8 ((s.length : Int) / 256), .int .u8 ((s.length : Int) % 256)] 5)) := (Below.refl _ _).alloc (Nat.le_refl _) _
  have hl2 := be_length s.length 2
  have HT : Hid (text s = be s.length 2 ++ s) := hid rfl
  generalize be s.length 2 = x2 at hO1 hl2 HT
  go_enter Tryd.func47, Tryd.ntmps47
  go_wp2_with (at_builtin; go_loud (refine wpList_app _ rfl (.tmp 11) (.tmp 12) _ _ rfl elem_u8 w.heap.size _ _ rfl hO1 _ rfl (s.map bv) (src_str _ Tryd.underlying9 s) (by simp only [List.length_map, hl2]; unfold maxLen; omega) (by simp only [List.length_map, hl2]; omega) (by simp) ?_))
  intro v1 w1 ho1 hs1
  rw [← List.map_append, ← HT.out] at ho1
  have hb1 : Below w.heap.size w w1 := hba.trans (hs1.below (by simp) (fun k h => (hO1.lt k h).1))
  clear hs1 hO1 hba
  go_wp2
  go_ret
  exact ⟨_, rfl, ho1, hb1⟩

set_option maxHeartbeats 2000000 in
theorem rtextW_all (q base : Nat) (v : Value) (xs : List UInt8) (ao : Option Addr) (n cap : Nat) (ss : List (List UInt8)) (w : World) (H : RwE w q v) (hO : OwnB w base v xs) (hbase : base ≤ w.heap.size) (hl : xs.length ≤ 1048576) (hn : ss.length = n) (hm : n ≤ 1048576) (hI : Ss w ao ss) (hrM : ∀ j (h : j < ss.length), ss[j].length ≤ 9223372036854775807) :
    Calls Tryd.prog 17 #[.pointer (some ⟨q, 0, none⟩), .slice ao n cap] w (RTold q base v (textOut ss xs) w) := by
  go_enter Tryd.func17, Tryd.ntmps17
  go_wp2
  go_loopw [5, 6] (fun u i wr => ∃ k : Nat, k ≤ n ∧ i = .int .i64 k ∧ OwnB wr w.heap.size u (texts (ss.take k)) ∧ Below w.heap.size w wr ∧ (ss.take k).any bigText = false ∧ (texts (ss.take k)).length ≤ 65537 * k) (fun _ i _ => n - (intOf i).toNat)
  case atStart => exact ⟨0, Nat.zero_le _, rfl, Own.nil _ _ _, Below.refl _ _, by simp, by simp [texts]⟩
  case round =>
    obtain ⟨k, hk, rfl, hb, hbl, hgood, hlk⟩ := hrel
    by_cases hlt : k < n
    · rcases hI.keep (below_keep hbl) with hS0 | ⟨b, off, rfl, hc⟩
      · subst hS0; simp at hn; omega
      · have hck := hc k (by omega)
        have hrk := hrM k (by omega)
        have HS : Hid (texts (ss.take (k + 1)) = texts (ss.take k) ++ text (ss[k]'(by omega))) := hid (texts_snoc _ _ (by omega))
        have HT : Hid ((ss.take (k + 1)).any bigText = ((ss.take k).any bigText || bigText (ss[k]'(by omega)))) := hid (by rw [List.take_succ_eq_append_getElem (by omega), List.any_append]; simp)
        have HA : Hid (bigText (ss[k]'(by omega)) = true → ss.any bigText = true) := hid (fun h => List.any_eq_true.2 ⟨_, List.getElem_mem _, h⟩)
        generalize ss[k]'(by omega) = N at hck HS HT HA hrk
        generalize texts (ss.take k) = ys at hb HS hlk
        by_cases hN : 65535 < N.length
        · have HR : Hid (RTold q base v (textOut ss xs) w (.returned (.int .i64 6)) wr) := hid (by unfold textOut; rw [if_pos (HA.out (by unfold bigText; simpa using hN))]; exact RTold.no H hO hbl 6)
          clear hc hI HS HT HA hb hgood hrM
          go_wp2
          go_ret
          exact HR.out
        · have HG : Hid ((ss.take (k + 1)).any bigText = false) := hid (by rw [HT.out, hgood]; unfold bigText; simp; omega)
          clear hc hI HT HA hgood hrM
          go_wp2_with fail
          refine (rtextOne N wr (by omega)).mono ?_
          rintro e w1 ⟨v1, rfl, hO1, hb1⟩
          have hb' : OwnB w1 w.heap.size _ ys := Own.below hb hb1
          have hbl1 := hbl.trans (hb1.mono hbl.size)
          obtain ⟨a1, c1, hv1, _, _, hB1, _, _⟩ := Own.bs hO1
          have hS1 := src_bs (P := Tryd.prog) w1 Tryd.underlying26 hB1 c1
          have htl := text_length N
          have HL : Hid ((ys ++ text N).length ≤ 65537 * (k + 1)) := hid (by rw [List.length_append, htl]; omega)
          generalize text N = tN at hv1 hS1 htl HS HL hO1 hB1
          subst hv1
          have htl' : tN.length ≤ 65537 := by omega
          clear hb hb1 hbl hO1 hB1 htl
          go_wp2_with (at_builtin; go_loud (refine wpList_app _ rfl _ _ _ _ rfl elem_u8 w.heap.size _ _ rfl hb' _ rfl (tN.map bv) hS1 (by simp only [List.length_map]; unfold maxLen; omega) (by simp only [List.length_map]; omega) hbl1.size ?_))
          intro v2 w2 ho2 hs2
          rw [← List.map_append] at ho2
          have R1 : OwnB w2 w.heap.size v2 (texts (ss.take (k + 1))) := by rw [HS.out]; exact ho2
          have R2 : Below w.heap.size w w2 := hbl1.trans (hs2.below hbl1.size (fun k h => (hb'.lt k h).1))
          clear ho2 hs2 hb' hbl1 hS1
          go_wp2
          go_roundw
          case rel => exact ⟨k + 1, by omega, by go_num, R1, R2, HG.out, by rw [HS.out]; exact HL.out⟩
          case measure => simp [intOf]; omega
    · have HE : ss.take k = ss := List.take_of_length_le (by omega)
      rw [HE] at hb hgood hlk
      obtain ⟨a1, c1, hv1, _, _, hB1, _, _⟩ := Own.bs hb
      subst hv1
      have HO : Hid (textOut ss xs = moreOut (texts ss) xs) := hid (by unfold textOut; rw [if_neg (by rw [hgood]; decide)])
      clear HE hgood
      go_wp2_with fail
      refine (rmore_all q base v xs a1 _ c1 (texts ss) wr (H.chg (Chg.of_below (S := fun _ => False) hbl) id) (Own.below hO hbl) (Nat.le_trans hbase hbl.size) hl rfl hB1).mono ?_
      intro e w2 R
      have R' := R.after hbl
      rw [← HO.out] at R'
      have HR : Hid _ := hid R'
      obtain ⟨v2, rfl, _⟩ := R'
      clear R
      go_wp2
      go_ret
      exact HR.out
end Go.Proofs.YtjnmgnnaefiegaaDoor
