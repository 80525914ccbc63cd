/- The document's add. -/
import Derived.Test.YtbjipcpoiiegkaaGreatDoorBG
import Derived.Test.YtbjipcpoiiegkaaGreatDoorVZ
namespace Go.Proofs.YtbjipcpoiiegkaaGreatDoor
open Go.RowKit Go.Shelf
def constB : List UInt8 := [99, 111, 110, 115, 116, 32]
/-- What comes of a line, as the document reads it. -/
def addS (S : Scr) (l : List UInt8) : Option Scr :=
  if l.take 6 = constB then (if ((readOf (l.drop 6)).map Val.t = some 2) ∧ S.funcs = [] then (readOf (l.drop 6)).map fun v => ⟨S.consts ++ [v.b], S.funcs⟩ else instrS S l)
  else if (headOf (pieces l)).isSome = true then (headOf (pieces l)).map fun f => ⟨S.consts, S.funcs ++ [f]⟩ else instrS S l
theorem AddEnd.back {B k : Nat} {r : Option Scr} {W W2 : World} {e : Ending} {w' : World} (h : AddEnd B k r W2 e w') (hb : Below B W W2) : AddEnd B k r W e w' := ⟨h.1, hb.trans h.2.1, h.2.2⟩
set_option maxRecDepth 100000 in
set_option maxHeartbeats 4000000 in
theorem radd_any (B k : Nat) (hk : k ≤ 65537) (line : List UInt8) (hl : line.length ≤ 1048576) (cs : List (List UInt8)) (L : List (Fn × FV)) (v0 v1 : Value) (W : World) (R : RL B cs L v0 v1 W) (few : Few k cs L) :
    Calls Tryz.prog 45 #[.pointer (some ⟨B, 0, none⟩), .string ⟨line.toArray⟩] W (AddEnd B k (addS ⟨cs, L.map (·.1)⟩ line) W) := by
  have szB := R.size
  have hA : ∀ W2, Below W.heap.size W W2 → Calls Tryz.prog 67 #[.pointer (some ⟨B, 0, none⟩), .string ⟨line.toArray⟩] W2 (AddEnd B k (instrS ⟨cs, L.map (·.1)⟩ line) W) := fun W2 h => (raddInstr_any B k hk line hl cs L v0 v1 W2 (R.keep h) few).mono fun e w' q => q.back (h.mono (by omega))
  by_cases hc : line.take 6 = constB
  · have h6 : 6 ≤ line.length := by
      have := congrArg List.length hc
      simp [constB] at this
      omega
    have h6' : (6 : Int) ≤ (line.length : Int) := by omega
    have e1 : (⟨line.toArray⟩ : ByteArray).extract 0 6 = ⟨constB.toArray⟩ := by rw [cut_front, hc]
    have e2 : (⟨line.toArray⟩ : ByteArray).extract 6 line.length = ⟨(line.drop 6).toArray⟩ := cut_back line 6
    have hW := rword_any (line.drop 6) (by simp; omega) W
    have HS : Hid (addS ⟨cs, L.map (·.1)⟩ line = if ((readOf (line.drop 6)).map Val.t = some 2) ∧ L.map (·.1) = [] then (readOf (line.drop 6)).map fun v => ⟨cs ++ [v.b], L.map (·.1)⟩ else instrS ⟨cs, L.map (·.1)⟩ line) := hid (if_pos hc)
    unfold constB at e1
    clear hc
    unfold WordEnd at hW
    generalize line.drop 6 = rest at e2 hW HS
    generalize addS ⟨cs, L.map (·.1)⟩ line = rr at HS ⊢
    generalize instrS ⟨cs, L.map (·.1)⟩ line = ri at HS hA
    cases hr : readOf rest with
    | none =>
      rw [hr] at hW HS
      have HE : Hid (rr = ri) := hid (by rw [HS.out, if_neg (by simp)])
      clear HS
      go_enter Tryz.func45, Tryz.ntmps45
      go_wp2_with (first
        | (go_at_call 66; refine hW.mono ?_; rintro e w3 ⟨⟨xt, xn, xb⟩, rfl, hxy, hb3⟩; clear hW; simp only [Val.v, Option.isSome_none]; have bx4 := hb3.alloc hb3.size (.cells #[.int .i64 xt, .int .i64 xn, .string ⟨xb.toArray⟩] 54))
        | (go_at_call 67; refine (hA _ bx4).mono ?_; rintro e w5 ⟨rfl, hE2⟩; clear hA)
        | fail)
      go_ret
      exact ⟨by rw [HE.out]; rfl, hE2.1, by rw [HE.out]; exact hE2.2⟩
    | some v =>
      rw [hr] at hW HS
      simp only [Option.map_some] at HS
      obtain ⟨vt, vn, vb⟩ := v
      by_cases ht : vt = 2
      · subst ht
        by_cases hL : L = []
        · subst hL
          have HE : Hid (rr = some ⟨cs ++ [vb], []⟩) := hid (by rw [HS.out, if_pos ⟨rfl, rfl⟩]; rfl)
          obtain ⟨a1, c1, e1', _⟩ := row_form R.rf
          subst e1'
          simp only [List.length_nil] at *
          have fc := few.c
          clear HS hA
          go_enter Tryz.func45, Tryz.ntmps45
          go_wp2_with (first
            | (go_at_call 66; refine hW.mono ?_; rintro e w3 ⟨⟨xt, xn, xb⟩, rfl, hxy, hb3⟩; clear hW; simp only [Val.v, Option.isSome_some]; have bx4 := hb3.alloc hb3.size (.cells #[.int .i64 xt, .int .i64 xn, .string ⟨xb.toArray⟩] 54); obtain ⟨rfl, rfl, rfl⟩ := (by simpa using hxy _ rfl : xt = 2 ∧ xn = vn ∧ xb = vb); have r3 := R.keep hb3; obtain ⟨p0, p1, z0, z1⟩ := cells2 r3.box; have sz3 : B < w3.heap.size := r3.size)
            | fail)
          have bx5 := ((Below.refl _ w3).alloc (Nat.le_refl _) (.cells #[.int .i64 2, .int .i64 xn, .string ⟨xb.toArray⟩] 54)).drew.alloc (by simp) (.cells #[.string ⟨xb.toArray⟩] 9)
          have r5 := r3.keep bx5
          go_region_law (first
            | (refine step_appN _ (by rfl) (.tmp 45) (.tmp 48) 37 (by rfl) elemN_str (B + 1) v0 cs.length (cellsS cs) (by rfl) r5.rc _ (by rfl) 1 [.string ⟨xb.toArray⟩] (.inr ⟨⟨_, 0, none⟩, 1, rfl, cells_new5 _ [.string ⟨xb.toArray⟩] 9 _ (World.size_alloc _ _)⟩) rfl (by simp [Value.oneCell']) (by unfold maxLen; omega) (by omega) (by simp; omega) ?_; intro v' w6 hr6 hs6; have bx6 := ChgT.step r5.rc hs6 _ _ _ _ (by decide) r5.box; obtain ⟨j0, j1, j2, j3⟩ := cells2 bx6; obtain ⟨vy, vm, vd, rfl⟩ := row_slice hr6))
          all_goals
            have R6 := r5.const hr6 hs6
            have hb6 := ((hb3.mono (show B ≤ W.heap.size by omega)).trans (bx5.mono (by omega))).trans ((hs6.below (B := B + 1) (by simp; omega) fun g e => (r5.rc.lt g e).1).mono (by omega))
            go_wp2_with fail
            go_ret
            refine ⟨by rw [HE.out]; rfl, hb6.setCell (p := ⟨B, 0, none⟩) (Nat.le_refl _) _, fun S e => ?_⟩
            rw [HE.out] at e
            cases e
            exact ⟨cs ++ [xb], [], _, _, rfl, R6, few.const⟩
        · have HE : Hid (rr = ri) := hid (by rw [HS.out, if_neg (by simp [hL])])
          clear HS
          have hlen : 0 < L.length := List.length_pos_iff.2 hL
          have hlen' : (0 : Int) < (L.length : Int) := by omega
          obtain ⟨a1, c1, e1', _⟩ := row_form R.rf
          subst e1'
          generalize L.length = nL at *
          go_enter Tryz.func45, Tryz.ntmps45
          go_wp2_with (first
            | (go_at_call 66; refine hW.mono ?_; rintro e w3 ⟨⟨xt, xn, xb⟩, rfl, hxy, hb3⟩; clear hW; simp only [Val.v, Option.isSome_some]; have bx4 := hb3.alloc hb3.size (.cells #[.int .i64 xt, .int .i64 xn, .string ⟨xb.toArray⟩] 54); obtain ⟨rfl, rfl, rfl⟩ := (by simpa using hxy _ rfl : xt = 2 ∧ xn = vn ∧ xb = vb); have r4 := R.keep bx4; obtain ⟨p0, p1, z0, z1⟩ := cells2 r4.box)
            | (go_at_call 67; refine (hA _ bx4).mono ?_; rintro e w5 ⟨rfl, hE2⟩; clear hA)
            | fail)
          go_ret
          exact ⟨by rw [HE.out]; rfl, hE2.1, by rw [HE.out]; exact hE2.2⟩
      · have HE : Hid (rr = ri) := hid (by rw [HS.out, if_neg (by simp [ht])])
        clear HS
        have hq : (vt == 2) = false := by simpa using ht
        go_enter Tryz.func45, Tryz.ntmps45
        go_wp2_with (first
          | (go_at_call 66; refine hW.mono ?_; rintro e w3 ⟨⟨xt, xn, xb⟩, rfl, hxy, hb3⟩; clear hW; simp only [Val.v, Option.isSome_some]; have bx4 := hb3.alloc hb3.size (.cells #[.int .i64 xt, .int .i64 xn, .string ⟨xb.toArray⟩] 54); obtain ⟨rfl, rfl, rfl⟩ := (by simpa using hxy _ rfl : xt = vt ∧ xn = vn ∧ xb = vb))
          | (go_at_call 67; refine (hA _ bx4).mono ?_; rintro e w5 ⟨rfl, hE2⟩; clear hA)
          | fail)
        go_ret
        exact ⟨by rw [HE.out]; rfl, hE2.1, by rw [HE.out]; exact hE2.2⟩
  · have hR := rreadHead_any line W hl
    have HS : Hid (addS ⟨cs, L.map (·.1)⟩ line = if (headOf (pieces line)).isSome = true then (headOf (pieces line)).map fun f => ⟨cs, L.map (·.1) ++ [f]⟩ else instrS ⟨cs, L.map (·.1)⟩ line) := hid (if_neg hc)
    have fL := few.f
    generalize addS ⟨cs, L.map (·.1)⟩ line = rr at HS ⊢
    generalize instrS ⟨cs, L.map (·.1)⟩ line = ri at HS hA
    have hcond : (line.length < 6 ∨ 6 ≤ line.length ∧ (line.take 6 == constB) = false) := by
      by_cases h : line.length < 6
      · exact .inl h
      · exact .inr ⟨by omega, by simpa using hc⟩
    have e1 : (⟨line.toArray⟩ : ByteArray).extract 0 6 = ⟨(line.take 6).toArray⟩ := cut_front line 6
    unfold constB at hcond
    clear hc
    generalize line.take 6 = l6 at e1 hcond
    have HD : Hid (∀ f, headOf (pieces line) = some f → f.code = []) := hid fun f h => head_code h
    cases hr : headOf (pieces line) with
    | none =>
      rw [hr] at hR HS
      have HE : Hid (rr = ri) := hid (by rw [HS.out, if_neg (by simp)])
      clear HS
      rcases hcond with h6 | ⟨h6, hq⟩
      · have h6' : ¬ (6 : Int) ≤ (line.length : Int) := by omega
        go_enter Tryz.func45, Tryz.ntmps45
        go_wp2_with (first
          | (go_at_call 14; refine hR.mono ?_; rintro e w3 ⟨y0, m0, d0, y1, m1, d1, y2, m2, d2, rfl, hx, hb3⟩; clear hR; simp only [Option.isSome_none]; have bx4 := hb3.alloc hb3.size (.cells #[.slice y0 m0 d0, .slice y1 m1 d1, .slice y2 m2 d2, .slice none 0 0] 32))
          | (go_at_call 67; refine (hA _ bx4).mono ?_; rintro e w5 ⟨rfl, hE2⟩; clear hA)
          | fail)
        go_ret
        exact ⟨by rw [HE.out]; rfl, hE2.1, by rw [HE.out]; exact hE2.2⟩
      · have h6' : (6 : Int) ≤ (line.length : Int) := by omega
        go_enter Tryz.func45, Tryz.ntmps45
        go_wp2_with (first
          | (go_at_call 14; refine hR.mono ?_; rintro e w3 ⟨y0, m0, d0, y1, m1, d1, y2, m2, d2, rfl, hx, hb3⟩; clear hR; simp only [Option.isSome_none]; have bx4 := hb3.alloc hb3.size (.cells #[.slice y0 m0 d0, .slice y1 m1 d1, .slice y2 m2 d2, .slice none 0 0] 32))
          | (go_at_call 67; refine (hA _ bx4).mono ?_; rintro e w5 ⟨rfl, hE2⟩; clear hA)
          | fail)
        go_ret
        exact ⟨by rw [HE.out]; rfl, hE2.1, by rw [HE.out]; exact hE2.2⟩
    | some f =>
      rw [hr] at hR HS
      have hcode := HD.out f hr
      have HE : Hid (rr = some ⟨cs, L.map (·.1) ++ [f]⟩) := hid (by rw [HS.out]; rfl)
      clear HS hA
      rcases hcond with h6 | ⟨h6, hq⟩
      · have h6' : ¬ (6 : Int) ≤ (line.length : Int) := by omega
        go_enter Tryz.func45, Tryz.ntmps45
        go_wp2_with (first
          | (go_at_call 14; refine hR.mono ?_; rintro e w3 ⟨y0, m0, d0, y1, m1, d1, y2, m2, d2, rfl, hx, hb3⟩; clear hR; simp only [Option.isSome_some]; have bx4 := hb3.alloc hb3.size (.cells #[.slice y0 m0 d0, .slice y1 m1 d1, .slice y2 m2 d2, .slice none 0 0] 32); have r3 := R.keep hb3; obtain ⟨p0, p1, z0, z1⟩ := cells2 r3.box; have sz3 : B < w3.heap.size := r3.size; have hrows := hx f rfl)
          | fail)
        have bx5 := ((Below.refl _ w3).alloc (Nat.le_refl _) (.cells #[.slice y0 m0 d0, .slice y1 m1 d1, .slice y2 m2 d2, .slice none 0 0] 32)).drew.alloc (by simp) (.cells #[.slice y0 m0 d0, .slice y1 m1 d1, .slice y2 m2 d2, .slice none 0 0] 32)
        have r5 := r3.keep bx5
        go_region_law (first
          | (refine step_appN _ (by rfl) (.tmp 62) (.tmp 64) 36 (by rfl) elemN_fn (B + 1) v1 L.length (cellsF L) (by rfl) r5.rf _ (by rfl) 1 [.slice y0 m0 d0, .slice y1 m1 d1, .slice y2 m2 d2, .slice none 0 0] (.inr ⟨⟨_, 0, none⟩, 1, rfl, cells_new5 _ [.slice y0 m0 d0, .slice y1 m1 d1, .slice y2 m2 d2, .slice none 0 0] 32 _ (World.size_alloc _ _)⟩) rfl (by simp [Value.oneCell']) (by unfold maxLen; omega) (by omega) (by simp; omega) ?_; intro v' w6 hr6 hs6; have bx6 := ChgT.step r5.rf hs6 _ _ _ _ (by decide) r5.box; obtain ⟨j0, j1, j2, j3⟩ := cells2 bx6; obtain ⟨vy, vm, vd, rfl⟩ := row_slice hr6))
        all_goals
          have R6 := r5.func (f := f) ((fOwn_head hrows hcode szB).chg (ChgT.below bx5 9) (by decide) (by decide)) rfl hr6 hs6
          have hb6 := ((hb3.mono (show B ≤ W.heap.size by omega)).trans (bx5.mono (by omega))).trans ((hs6.below (B := B + 1) (by simp; omega) fun g e => (r5.rf.lt g e).1).mono (by omega))
          go_wp2_with fail
          go_ret
          refine ⟨by rw [HE.out]; rfl, hb6.setCell (p := ⟨B, 1, none⟩) (Nat.le_refl _) _, fun S e => ?_⟩
          rw [HE.out] at e
          cases e
          exact ⟨cs, _, _, _, by simp, R6, few.func hcode⟩
      · have h6' : (6 : Int) ≤ (line.length : Int) := by omega
        go_enter Tryz.func45, Tryz.ntmps45
        go_wp2_with (first
          | (go_at_call 14; refine hR.mono ?_; rintro e w3 ⟨y0, m0, d0, y1, m1, d1, y2, m2, d2, rfl, hx, hb3⟩; clear hR; simp only [Option.isSome_some]; have bx4 := hb3.alloc hb3.size (.cells #[.slice y0 m0 d0, .slice y1 m1 d1, .slice y2 m2 d2, .slice none 0 0] 32); have r3 := R.keep hb3; obtain ⟨p0, p1, z0, z1⟩ := cells2 r3.box; have sz3 : B < w3.heap.size := r3.size; have hrows := hx f rfl)
          | fail)
        have bx5 := ((Below.refl _ w3).alloc (Nat.le_refl _) (.cells #[.slice y0 m0 d0, .slice y1 m1 d1, .slice y2 m2 d2, .slice none 0 0] 32)).drew.alloc (by simp) (.cells #[.slice y0 m0 d0, .slice y1 m1 d1, .slice y2 m2 d2, .slice none 0 0] 32)
        have r5 := r3.keep bx5
        go_region_law (first
          | (refine step_appN _ (by rfl) (.tmp 62) (.tmp 64) 36 (by rfl) elemN_fn (B + 1) v1 L.length (cellsF L) (by rfl) r5.rf _ (by rfl) 1 [.slice y0 m0 d0, .slice y1 m1 d1, .slice y2 m2 d2, .slice none 0 0] (.inr ⟨⟨_, 0, none⟩, 1, rfl, cells_new5 _ [.slice y0 m0 d0, .slice y1 m1 d1, .slice y2 m2 d2, .slice none 0 0] 32 _ (World.size_alloc _ _)⟩) rfl (by simp [Value.oneCell']) (by unfold maxLen; omega) (by omega) (by simp; omega) ?_; intro v' w6 hr6 hs6; have bx6 := ChgT.step r5.rf hs6 _ _ _ _ (by decide) r5.box; obtain ⟨j0, j1, j2, j3⟩ := cells2 bx6; obtain ⟨vy, vm, vd, rfl⟩ := row_slice hr6))
        all_goals
          have R6 := r5.func (f := f) ((fOwn_head hrows hcode szB).chg (ChgT.below bx5 9) (by decide) (by decide)) rfl hr6 hs6
          have hb6 := ((hb3.mono (show B ≤ W.heap.size by omega)).trans (bx5.mono (by omega))).trans ((hs6.below (B := B + 1) (by simp; omega) fun g e => (r5.rf.lt g e).1).mono (by omega))
          go_wp2_with fail
          go_ret
          refine ⟨by rw [HE.out]; rfl, hb6.setCell (p := ⟨B, 1, none⟩) (Nat.le_refl _) _, fun S e => ?_⟩
          rw [HE.out] at e
          cases e
          exact ⟨cs, _, _, _, by simp, R6, few.func hcode⟩
end Go.Proofs.YtbjipcpoiiegkaaGreatDoor
