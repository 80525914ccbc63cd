/- Layer 16: JournalLasts: step. -/
import Derived.Test.YthmjejmignangaaGreatDoorLOp16
import Derived.Test.YthmjejmignangaaGreatDoorLAg16
namespace Go.Proofs.YthmjejmignangaaGreatDoor
open Go.RowKit
set_option maxRecDepth 100000 in
set_option maxHeartbeats 8000000 in
theorem step16 {w : World} {rb db jb E : Nat} {vs vm : Value} {sure may : List Bt} {V : World} (h : RJ w none rb db jb E false (-1) vs vm sure may may V) (hE : E ≤ 900000) (hl : may.length ≤ 900000) (kind fuse : Int) (ba : Option Addr) (bn bc : Nat) (b : Bt) (fa : Option Addr) (fn fc : Nat) (fates : List Int) (hb : BsX w ba bn bc b) (hbc : bc ≤ 9223372036854775807) (hf : FatO (fun i => ¬ i < w.heap.size) w (.slice fa fn fc) fates) :
    Calls Tryz.prog 22 #[.pointer (some ⟨rb, 0, none⟩), .agg #[.int .i64 kind, .int .i64 fuse, .slice ba bn bc, .slice fa fn fc]] V fun e W => e = .returned (.bool true) ∧ Hid (∃ jb' vs' vm' sure' may', RJ w none rb db jb' (E + 2) false (-1) vs' vm' sure' may' may' W ∧ may'.length ≤ may.length + 1) := by
  obtain ⟨fk, hfk, hf1, hf2⟩ := fuse_int fuse
  obtain ⟨W0, hW0⟩ : ∃ W0, W0 = V.alloc (.cells #[.int .i64 kind, .int .i64 fuse, .slice ba bn bc, .slice fa fn fc] 60) := ⟨_, rfl⟩
  obtain ⟨pb, hpb⟩ : ∃ pb, pb = V.heap.size := ⟨_, rfl⟩
  obtain ⟨px, hpx⟩ : ∃ px : Option (Nat × Obj), px = some (pb, .cells #[.int .i64 kind, .int .i64 fuse, .slice ba bn bc, .slice fa fn fc] 60 (0, 0)) := ⟨_, rfl⟩
  have h0 : RJ w px rb db jb E false (-1) vs vm sure may may W0 := by rw [hW0, hpx, hpb]; exact rj_box h _
  obtain ⟨sa, sc, es⟩ : ∃ a c, vs = .slice a sure.length c := by obtain ⟨a, c, e, _⟩ := row_form h.rows.1; exact ⟨a, c, e⟩
  obtain ⟨ma, mc, em, hmc1, hmc2⟩ : ∃ a c, vm = .slice a may.length c ∧ may.length ≤ c ∧ c ≤ 9223372036854775807 := by obtain ⟨a, c, e, q1, q2, _⟩ := row_form h.rows.2; exact ⟨a, c, e, q1, q2⟩
  -- the two boxes of any later world
  have HA : Hid (∀ (jb E off fu vs vm sure may lm W), RJ w px rb db jb E off fu vs vm sure may lm W → (W.cell? ⟨rb, 0, none⟩ = some (.pointer (some ⟨db, 0, none⟩)) ∧ W.cell? ⟨rb, 1, none⟩ = some (.pointer (some ⟨jb, 0, none⟩)) ∧ W.cell? ⟨rb, 2, none⟩ = some vs ∧ W.cell? ⟨rb, 3, none⟩ = some vm ∧ rb < W.heap.size) ∧ (W.cell? ⟨pb, 0, none⟩ = some (.int .i64 kind) ∧ W.cell? ⟨pb, 1, none⟩ = some (.int .i64 fuse) ∧ W.cell? ⟨pb, 2, none⟩ = some (.slice ba bn bc) ∧ W.cell? ⟨pb, 3, none⟩ = some (.slice fa fn fc) ∧ pb < W.heap.size) ∧ (∀ k, W.frozen? ⟨rb, k, none⟩ = false)) := hidb fun jb E off fu vs vm sure may lm W hh => by
    obtain ⟨⟨a1, a2, a3, a4⟩, a5, a6⟩ := hh.at_
    rw [hpx] at hh
    have hp := hh.px
    exact ⟨⟨a1, a2, a3, a4, a6⟩, ⟨Lib.cell_of_heap hp 0, Lib.cell_of_heap hp 1, Lib.cell_of_heap hp 2, Lib.cell_of_heap hp 3, lt_of_block hp⟩, a5⟩
  have HC : Hid (∀ (E vs vm sure lm rs W), RC w px rb db E vs vm sure lm rs W → (W.cell? ⟨rb, 0, none⟩ = some (.pointer (some ⟨db, 0, none⟩)) ∧ rb < W.heap.size) ∧ (W.cell? ⟨pb, 3, none⟩ = some (.slice fa fn fc) ∧ pb < W.heap.size)) := hidb fun E vs vm sure lm rs W hh => by
    rw [hpx] at hh
    obtain ⟨a1, a2, a3⟩ := hh.at_
    exact ⟨⟨a1, a2⟩, Lib.cell_of_heap a3 3, lt_of_block a3⟩
  have H0 : Hid (RJ w px rb db jb E false (-1) vs vm sure may may W0.drew) := hidb (h0.below ((Below.refl _ W0).drew))
  have HBs : Hid (∀ W, Below w.heap.size w W → BsX W ba bn bc b) := hidb fun W hW => hb.below hW
  have HFa : Hid (∀ W, Below w.heap.size w W → ∀ K : Nat → Prop, (∀ k, k < w.heap.size → K k) → FatO (fun i => ¬ K i) W (.slice fa fn fc) fates) := hidb fun W hW K hK => hf.law hW K hK
  -- opened, behind a crash or not
  have HOpn : Hid (∀ (E vs vm sure lm rs W) (m : Nat), RC w px rb db E vs vm sure lm rs W → E ≤ 1000000 → m ≤ lm.length → rs = sure ++ lm.take m → lm.length ≤ 1000000 → _) := hidb fun E vs vm sure lm rs W m h1 h2 h3 h4 h5 => opened16 h1.drop h2 m h3 h4 h5
  obtain ⟨⟨x0, x1, x2, x3, xl⟩, ⟨y0, y1, y2, y3, yl⟩, -⟩ := HA.out _ _ _ _ _ _ _ _ _ _ H0.out
  clear h h0 hpx hb hf
  go_enter Tryz.func22, Tryz.ntmps22
  go_upto_region 1 with fail
  rw [← hpb, ← hW0]
  clear hpb hW0
  have HCut := hidb (H0.out.cut fk ⟨by omega, by omega⟩)
  go_region_held (fun W => W.cell? ⟨rb, 0, none⟩ = some (.pointer (some ⟨db, 0, none⟩)) ∧ W.cell? ⟨pb, 1, none⟩ = some (.int .i64 fuse) ∧ rb < W.heap.size ∧ pb < W.heap.size) (first | exact ⟨x0, y1, xl, yl⟩ | exact ⟨z0, u1, zl, ul⟩ | go_keep) (first
    | (go_at_call 42; refine HCut.out.mono ?_; clear HCut; rintro e w1 ⟨rfl, h1⟩; obtain ⟨⟨z0, z1, z2, z3, zl⟩, ⟨u0, u1, u2, u3, ul⟩, -⟩ := HA.out _ _ _ _ _ _ _ _ _ _ h1.out)
    | fail)
  clear x0 x1 x2 x3 xl y0 y1 y2 y3 yl H0 hfk
  subst es em
  by_cases k0 : kind = 0
  · subst k0
    have hnc : bn ≤ bc := by
      obtain ⟨q1, q2 | ⟨_, _, _, q3, _⟩⟩ := HBs.out w (Below.refl _ w)
      · omega
      · exact q3
    by_cases h300 : 300 < bn
    · obtain ⟨bB, bo, rfl, HBx⟩ : ∃ bB bo, ba = some ⟨bB, bo, none⟩ ∧ Hid (∀ W, Below w.heap.size w W → BsX W (some ⟨bB, bo, none⟩) 300 bc (b.take 300)) := by
        obtain ⟨q1, q2 | ⟨bB, bo, e, q3, q4, q5⟩⟩ := HBs.out w (Below.refl _ w)
        · omega
        · have hx : BsX w (some ⟨bB, bo, none⟩) 300 bc (b.take 300) := ⟨by rw [List.length_take]; omega, .inr ⟨bB, bo, rfl, by omega, q4, fun j hj => by
            rw [List.getElem_take]
            exact q5 j (by simp at hj; omega)⟩⟩
          exact ⟨bB, bo, e, hidb fun W hW => hx.below hW⟩
      generalize b.take 300 = bx at HBx
      clear HBs
      rcases h1.out.append (by omega) (some ⟨bB, bo, none⟩) 300 bc bx (HBx.out _ h1.out.bl) (by omega) with HAp | HAp | HAp
      · replace HAp := hidb HAp
        have HCv : Hid (∀ W, Below w.heap.size w W → (convert 29 9 (.slice (some ⟨bB, bo, none⟩) 300 bc)).run Tryz.prog W = .ok (sv bx) W) := hidb fun W hW => jst_str (HBx.out W hW)
        go_upto_region 10 with (first
          | (go_at_call 14; refine HAp.out.mono ?_; clear HAp; rintro e w3 ⟨rfl, h3⟩)
          | (go_at_call 13; refine (num_any16 _ _).mono ?_; rintro e wn ⟨rfl, e5⟩; obtain rfl := e5.symm)
          | fail)
        obtain ⟨fu', h3'⟩ := h3.out
        have H3 := hidb h3'
        obtain ⟨⟨a0, a1, a2, a3, al⟩, -, -⟩ := HA.out _ _ _ _ _ _ _ _ _ _  (H3.out.below ((Below.refl _ _).drew))
        have cv1 := HCv.out _ (H3.out.below ((Below.refl _ _).drew)).bl
        have cv2 := HCv.out _ ((H3.out.below ((Below.refl _ _).drew)).below ((Below.refl _ _).alloc (Nat.le_refl _) (.cells #[sv bx] 9))).bl
        obtain ⟨f1, f2, f3, f4⟩ := push_facts H3.out rfl bx
        have hbb : (a3 = a3) := rfl
        obtain ⟨⟨c0, c1, c2, c3, cl⟩, -, -⟩ := HA.out _ _ _ _ _ _ _ _ _ _ (H3.out.below ((Below.refl _ _).alloc (Nat.le_refl _) (.cells #[sv bx] 9)))
        clear h3 h3' HCv z0 z1 z2 z3 zl u0 u1 u2 u3 ul hbb
        go_region_law (first
          | (refine step_appN _ rfl (.tmp 42) (.tmp 45) 54 rfl elemS16 w.heap.size (.slice ma may.length mc) may.length (svl may) rfl f1 _ rfl 1 [sv bx] f2 rfl (by simp [Value.oneCell']) (by unfold maxLen; omega) (by omega) f3 ?_; intro v5 w5 hr5 hs5; obtain ⟨a5, c5, e5, p1, p2, p3, H5⟩ := f4.out v5 w5 hr5 hs5; subst e5; clear hr5 hs5)
          | fail)
        all_goals clear f1 f2 f3 f4 cv1 cv2 a0 a1 a2 a3 al c0 c1 c2 c3 cl
        all_goals (
          go_upto_region 29 with fail
          obtain ⟨⟨a0, a1, a2, a3, al⟩, ⟨b0, b1, b2, b3, bl⟩, -⟩ := HA.out _ _ _ _ _ _ _ _ _ _  H5.out
          have HCu := hidb (H5.out.cut (-1) ⟨by omega, by omega⟩)
          go_wp2_with (first
            | (go_at_call 42; refine HCu.out.mono ?_; clear HCu; rintro e w9 ⟨rfl, h9⟩)
            | (go_at_call 13; refine (num_any16 _ _).mono ?_; rintro e wn ⟨rfl, e5⟩; obtain rfl := e5.symm)
            | fail)
          go_ret
          exact ⟨rfl, hidb ⟨jb, _, _, _, _, (h9.out.up (by omega)).drop, by simp⟩⟩)
      · replace HAp := hidb HAp
        go_upto_region 29 with (first
          | (go_at_call 14; refine HAp.out.mono ?_; clear HAp; rintro e w3 ⟨rfl, h3⟩)
          | (go_at_call 13; refine (num_any16 _ _).mono ?_; rintro e wn ⟨rfl, e5⟩; obtain rfl := e5.symm)
          | fail)
        obtain ⟨fu', h3'⟩ := h3.out
        have H3 := hidb h3'
        clear h3 h3' z0 z1 z2 z3 zl u0 u1 u2 u3 ul
        obtain ⟨⟨a0, a1, a2, a3, al⟩, ⟨b0, b1, b2, b3, bl⟩, -⟩ := HA.out _ _ _ _ _ _ _ _ _ _  H3.out
        have HCu := hidb (H3.out.cut (-1) ⟨by omega, by omega⟩)
        go_wp2_with (first
          | (go_at_call 42; refine HCu.out.mono ?_; clear HCu; rintro e w9 ⟨rfl, h9⟩)
          | (go_at_call 13; refine (num_any16 _ _).mono ?_; rintro e wn ⟨rfl, e5⟩; obtain rfl := e5.symm)
          | fail)
        go_ret
        exact ⟨rfl, hidb ⟨jb, _, _, _, _, (h9.out.up (by omega)).drop, by omega⟩⟩

      · replace HAp := hidb HAp
        have HCv : Hid (∀ W, Below w.heap.size w W → (convert 29 9 (.slice (some ⟨bB, bo, none⟩) 300 bc)).run Tryz.prog W = .ok (sv bx) W) := hidb fun W hW => jst_str (HBx.out W hW)
        go_upto_region 12 with (first
          | (go_at_call 14; refine HAp.out.mono ?_; clear HAp; rintro e w3 ⟨rfl, h3⟩)
          | (go_at_call 13; refine (num_any16 _ _).mono ?_; rintro e wn ⟨rfl, e5⟩; obtain rfl := e5.symm)
          | fail)
        obtain ⟨fu', h3'⟩ := h3.out
        have H3 := hidb h3'
        obtain ⟨⟨a0, a1, a2, a3, al⟩, -, -⟩ := HA.out _ _ _ _ _ _ _ _ _ _  (H3.out.below ((Below.refl _ _).drew))
        have cv1 := HCv.out _ (H3.out.below ((Below.refl _ _).drew)).bl
        have cv2 := HCv.out _ ((H3.out.below ((Below.refl _ _).drew)).below ((Below.refl _ _).alloc (Nat.le_refl _) (.cells #[sv bx] 9))).bl
        obtain ⟨f1, f2, f3, f4⟩ := push_facts H3.out rfl bx
        have hbb : (a3 = a3) := rfl
        obtain ⟨⟨c0, c1, c2, c3, cl⟩, -, -⟩ := HA.out _ _ _ _ _ _ _ _ _ _ (H3.out.below ((Below.refl _ _).alloc (Nat.le_refl _) (.cells #[sv bx] 9)))
        clear h3 h3' HCv z0 z1 z2 z3 zl u0 u1 u2 u3 ul hbb
        go_region_law (first
          | (refine step_appN _ rfl (.tmp 55) (.tmp 58) 54 rfl elemS16 w.heap.size (.slice ma may.length mc) may.length (svl may) rfl f1 _ rfl 1 [sv bx] f2 rfl (by simp [Value.oneCell']) (by unfold maxLen; omega) (by omega) f3 ?_; intro v5 w5 hr5 hs5; obtain ⟨a5, c5, e5, p1, p2, p3, H5⟩ := f4.out v5 w5 hr5 hs5; subst e5; clear hr5 hs5)
          | fail)
        all_goals clear f1 f2 f3 f4 cv1 cv2 a0 a1 a2 a3 al c0 c1 c2 c3 cl
        all_goals (
          go_upto_region 27 with fail
          obtain ⟨⟨a0, a1, a2, a3, al⟩, ⟨b0, b1, b2, b3, bl⟩, -⟩ := HA.out _ _ _ _ _ _ _ _ _ _  (H5.out.below ((Below.refl _ _).drew))
          have HCr := hidb ((H5.out.below ((Below.refl _ _).drew)).crash fa fn fc fates (HFa.out _ (H5.out.below ((Below.refl _ _).drew)).bl))
          go_region_held (fun W => W.cell? ⟨rb, 0, none⟩ = some (.pointer (some ⟨db, 0, none⟩)) ∧ W.cell? ⟨pb, 3, none⟩ = some (.slice fa fn fc) ∧ rb < W.heap.size ∧ pb < W.heap.size) (first | exact ⟨a0, b3, al, bl⟩ | exact ⟨r0, r3, rl, rpl⟩ | go_keep) (first
            | (go_at_call 23; refine HCr.out.mono ?_; clear HCr; rintro e w5 ⟨rfl, h5⟩; obtain ⟨kk, hkk, hrc⟩ := h5.out; obtain ⟨⟨r0, rl⟩, r3, rpl⟩ := HC.out _ _ _ _ _ _ _  hrc)
            | fail)
          have HOp := hidb (HOpn.out _ _ _ _ _ _ _  kk hrc (by omega) (by simp; omega) (by rw [List.take_append_of_le_length hkk]) (by simp; omega))
          clear a0 a1 a2 a3 al b0 b1 b2 b3 bl r0 rl r3 rpl
          go_wp2_with (first
            | (go_at_call 21; refine HOp.out.mono ?_; clear HOp; rintro e w6 ⟨rfl, h6⟩)
            | fail)
          go_ret
          refine ⟨rfl, hidb ?_⟩
          obtain ⟨jb', vs', h7⟩ := h6.out
          exact ⟨jb', vs', _, _, [], h7.up (by omega), by simp⟩)
    · have hn3 : bn ≤ 300 := by omega
      have HBx := HBs
      clear HBs
      rcases h1.out.append (by omega) ba bn bc b (HBx.out _ h1.out.bl) (by omega) with HAp | HAp | HAp
      · replace HAp := hidb HAp
        have HCv : Hid (∀ W, Below w.heap.size w W → (convert 29 9 (.slice ba bn bc)).run Tryz.prog W = .ok (sv b) W) := hidb fun W hW => jst_str (HBx.out W hW)
        go_upto_region 10 with (first
          | (go_at_call 14; refine HAp.out.mono ?_; clear HAp; rintro e w3 ⟨rfl, h3⟩)
          | (go_at_call 13; refine (num_any16 _ _).mono ?_; rintro e wn ⟨rfl, e5⟩; obtain rfl := e5.symm)
          | fail)
        obtain ⟨fu', h3'⟩ := h3.out
        have H3 := hidb h3'
        obtain ⟨⟨a0, a1, a2, a3, al⟩, -, -⟩ := HA.out _ _ _ _ _ _ _ _ _ _  (H3.out.below ((Below.refl _ _).drew))
        have cv1 := HCv.out _ (H3.out.below ((Below.refl _ _).drew)).bl
        have cv2 := HCv.out _ ((H3.out.below ((Below.refl _ _).drew)).below ((Below.refl _ _).alloc (Nat.le_refl _) (.cells #[sv b] 9))).bl
        obtain ⟨f1, f2, f3, f4⟩ := push_facts H3.out rfl b
        have hbb : (a3 = a3) := rfl
        obtain ⟨⟨c0, c1, c2, c3, cl⟩, -, -⟩ := HA.out _ _ _ _ _ _ _ _ _ _ (H3.out.below ((Below.refl _ _).alloc (Nat.le_refl _) (.cells #[sv b] 9)))
        clear h3 h3' HCv z0 z1 z2 z3 zl u0 u1 u2 u3 ul hbb
        go_region_law (first
          | (refine step_appN _ rfl (.tmp 42) (.tmp 45) 54 rfl elemS16 w.heap.size (.slice ma may.length mc) may.length (svl may) rfl f1 _ rfl 1 [sv b] f2 rfl (by simp [Value.oneCell']) (by unfold maxLen; omega) (by omega) f3 ?_; intro v5 w5 hr5 hs5; obtain ⟨a5, c5, e5, p1, p2, p3, H5⟩ := f4.out v5 w5 hr5 hs5; subst e5; clear hr5 hs5)
          | fail)
        all_goals clear f1 f2 f3 f4 cv1 cv2 a0 a1 a2 a3 al c0 c1 c2 c3 cl
        all_goals (
          go_upto_region 29 with fail
          obtain ⟨⟨a0, a1, a2, a3, al⟩, ⟨b0, b1, b2, b3, bl⟩, -⟩ := HA.out _ _ _ _ _ _ _ _ _ _  H5.out
          have HCu := hidb (H5.out.cut (-1) ⟨by omega, by omega⟩)
          go_wp2_with (first
            | (go_at_call 42; refine HCu.out.mono ?_; clear HCu; rintro e w9 ⟨rfl, h9⟩)
            | (go_at_call 13; refine (num_any16 _ _).mono ?_; rintro e wn ⟨rfl, e5⟩; obtain rfl := e5.symm)
            | fail)
          go_ret
          exact ⟨rfl, hidb ⟨jb, _, _, _, _, (h9.out.up (by omega)).drop, by simp⟩⟩)
      · replace HAp := hidb HAp
        go_upto_region 29 with (first
          | (go_at_call 14; refine HAp.out.mono ?_; clear HAp; rintro e w3 ⟨rfl, h3⟩)
          | (go_at_call 13; refine (num_any16 _ _).mono ?_; rintro e wn ⟨rfl, e5⟩; obtain rfl := e5.symm)
          | fail)
        obtain ⟨fu', h3'⟩ := h3.out
        have H3 := hidb h3'
        clear h3 h3' z0 z1 z2 z3 zl u0 u1 u2 u3 ul
        obtain ⟨⟨a0, a1, a2, a3, al⟩, ⟨b0, b1, b2, b3, bl⟩, -⟩ := HA.out _ _ _ _ _ _ _ _ _ _  H3.out
        have HCu := hidb (H3.out.cut (-1) ⟨by omega, by omega⟩)
        go_wp2_with (first
          | (go_at_call 42; refine HCu.out.mono ?_; clear HCu; rintro e w9 ⟨rfl, h9⟩)
          | (go_at_call 13; refine (num_any16 _ _).mono ?_; rintro e wn ⟨rfl, e5⟩; obtain rfl := e5.symm)
          | fail)
        go_ret
        exact ⟨rfl, hidb ⟨jb, _, _, _, _, (h9.out.up (by omega)).drop, by omega⟩⟩

      · replace HAp := hidb HAp
        have HCv : Hid (∀ W, Below w.heap.size w W → (convert 29 9 (.slice ba bn bc)).run Tryz.prog W = .ok (sv b) W) := hidb fun W hW => jst_str (HBx.out W hW)
        go_upto_region 12 with (first
          | (go_at_call 14; refine HAp.out.mono ?_; clear HAp; rintro e w3 ⟨rfl, h3⟩)
          | (go_at_call 13; refine (num_any16 _ _).mono ?_; rintro e wn ⟨rfl, e5⟩; obtain rfl := e5.symm)
          | fail)
        obtain ⟨fu', h3'⟩ := h3.out
        have H3 := hidb h3'
        obtain ⟨⟨a0, a1, a2, a3, al⟩, -, -⟩ := HA.out _ _ _ _ _ _ _ _ _ _  (H3.out.below ((Below.refl _ _).drew))
        have cv1 := HCv.out _ (H3.out.below ((Below.refl _ _).drew)).bl
        have cv2 := HCv.out _ ((H3.out.below ((Below.refl _ _).drew)).below ((Below.refl _ _).alloc (Nat.le_refl _) (.cells #[sv b] 9))).bl
        obtain ⟨f1, f2, f3, f4⟩ := push_facts H3.out rfl b
        have hbb : (a3 = a3) := rfl
        obtain ⟨⟨c0, c1, c2, c3, cl⟩, -, -⟩ := HA.out _ _ _ _ _ _ _ _ _ _ (H3.out.below ((Below.refl _ _).alloc (Nat.le_refl _) (.cells #[sv b] 9)))
        clear h3 h3' HCv z0 z1 z2 z3 zl u0 u1 u2 u3 ul hbb
        go_region_law (first
          | (refine step_appN _ rfl (.tmp 55) (.tmp 58) 54 rfl elemS16 w.heap.size (.slice ma may.length mc) may.length (svl may) rfl f1 _ rfl 1 [sv b] f2 rfl (by simp [Value.oneCell']) (by unfold maxLen; omega) (by omega) f3 ?_; intro v5 w5 hr5 hs5; obtain ⟨a5, c5, e5, p1, p2, p3, H5⟩ := f4.out v5 w5 hr5 hs5; subst e5; clear hr5 hs5)
          | fail)
        all_goals clear f1 f2 f3 f4 cv1 cv2 a0 a1 a2 a3 al c0 c1 c2 c3 cl
        all_goals (
          go_upto_region 27 with fail
          obtain ⟨⟨a0, a1, a2, a3, al⟩, ⟨b0, b1, b2, b3, bl⟩, -⟩ := HA.out _ _ _ _ _ _ _ _ _ _  (H5.out.below ((Below.refl _ _).drew))
          have HCr := hidb ((H5.out.below ((Below.refl _ _).drew)).crash fa fn fc fates (HFa.out _ (H5.out.below ((Below.refl _ _).drew)).bl))
          go_region_held (fun W => W.cell? ⟨rb, 0, none⟩ = some (.pointer (some ⟨db, 0, none⟩)) ∧ W.cell? ⟨pb, 3, none⟩ = some (.slice fa fn fc) ∧ rb < W.heap.size ∧ pb < W.heap.size) (first | exact ⟨a0, b3, al, bl⟩ | exact ⟨r0, r3, rl, rpl⟩ | go_keep) (first
            | (go_at_call 23; refine HCr.out.mono ?_; clear HCr; rintro e w5 ⟨rfl, h5⟩; obtain ⟨kk, hkk, hrc⟩ := h5.out; obtain ⟨⟨r0, rl⟩, r3, rpl⟩ := HC.out _ _ _ _ _ _ _  hrc)
            | fail)
          have HOp := hidb (HOpn.out _ _ _ _ _ _ _  kk hrc (by omega) (by simp; omega) (by rw [List.take_append_of_le_length hkk]) (by simp; omega))
          clear a0 a1 a2 a3 al b0 b1 b2 b3 bl r0 rl r3 rpl
          go_wp2_with (first
            | (go_at_call 21; refine HOp.out.mono ?_; clear HOp; rintro e w6 ⟨rfl, h6⟩)
            | fail)
          go_ret
          refine ⟨rfl, hidb ?_⟩
          obtain ⟨jb', vs', h7⟩ := h6.out
          exact ⟨jb', vs', _, _, [], h7.up (by omega), by simp⟩)
  by_cases k1 : kind = 1
  · subst k1
    rcases h1.out.sync with HS | HS
    · replace HS := hidb HS
      go_upto_region 16 with (first
        | (go_at_call 15; refine HS.out.mono ?_; clear HS; rintro e w3 ⟨rfl, h3⟩)
        | (go_at_call 13; refine (num_any16 _ _).mono ?_; rintro e wn ⟨rfl, e5⟩; obtain rfl := e5.symm)
        | fail)
      obtain ⟨K, lb, g, d, j1, j2, j3, j4, j5⟩ := h3.out
      obtain ⟨⟨f1, f2, f3, f4, f5⟩, f6⟩ := join_facts j1 j2 rfl rfl j3 j4 j5
      obtain ⟨⟨-, -, c2, c3⟩, -, cl⟩ := (j2.below ((Below.refl _ _).drew)).at_
      have O := hidb (svl_one may)
      clear h3 j1 j2 j3 j4 j5 z0 z1 z2 z3 zl u0 u1 u2 u3 ul
      go_region_law (first
        | (refine step_appN _ rfl (.tmp 76) (.tmp 80) 54 rfl elemS16 w.heap.size (.slice sa sure.length sc) sure.length (svl sure) rfl f1 _ rfl may.length (svl may) f2 f4 O.out (by unfold maxLen; omega) (by omega) f3 ?_; intro v5 w5 hr5 hs5; obtain ⟨a5, c5, e5, p1, p2, p3, p4, p5, p6, H5⟩ := f6.out v5 w5 hr5 hs5; subst e5; clear hr5 hs5)
        | fail)
      all_goals clear f1 f2 f3 f4 f6 c2 c3 cl
      all_goals (
        go_upto_region 29 with fail
        obtain ⟨fu', h5⟩ := H5.out
        have H6 := hidb h5
        clear h5 H5
        obtain ⟨⟨a0, a1, a2, a3, al⟩, ⟨b0, b1, b2, b3, bl⟩, -⟩ := HA.out _ _ _ _ _ _ _ _ _ _  H6.out
        have HCu := hidb (H6.out.cut (-1) ⟨by omega, by omega⟩)
        go_wp2_with (first
          | (go_at_call 42; refine HCu.out.mono ?_; clear HCu; rintro e w9 ⟨rfl, h9⟩)
          | (go_at_call 13; refine (num_any16 _ _).mono ?_; rintro e wn ⟨rfl, e5⟩; obtain rfl := e5.symm)
          | fail)
        go_ret
        exact ⟨rfl, hidb ⟨jb, _, _, _, _, (h9.out.up (by omega)).drop, by simp⟩⟩)
    · replace HS := hidb HS
      go_upto_region 27 with (first
        | (go_at_call 15; refine HS.out.mono ?_; clear HS; rintro e w3 ⟨rfl, h3⟩)
        | (go_at_call 13; refine (num_any16 _ _).mono ?_; rintro e wn ⟨rfl, e5⟩; obtain rfl := e5.symm)
        | fail)
      obtain ⟨fu', h3'⟩ := h3.out
      have H3 := hidb h3'
      clear h3 h3' z0 z1 z2 z3 zl u0 u1 u2 u3 ul
      obtain ⟨⟨a0, a1, a2, a3, al⟩, ⟨b0, b1, b2, b3, bl⟩, -⟩ := HA.out _ _ _ _ _ _ _ _ _ _  (H3.out.below ((Below.refl _ _).drew))
      have HCr := hidb ((H3.out.below ((Below.refl _ _).drew)).crash fa fn fc fates (HFa.out _ (H3.out.below ((Below.refl _ _).drew)).bl))
      go_region_held (fun W => W.cell? ⟨rb, 0, none⟩ = some (.pointer (some ⟨db, 0, none⟩)) ∧ W.cell? ⟨pb, 3, none⟩ = some (.slice fa fn fc) ∧ rb < W.heap.size ∧ pb < W.heap.size) (first | exact ⟨a0, b3, al, bl⟩ | exact ⟨r0, r3, rl, rpl⟩ | go_keep) (first
        | (go_at_call 23; refine HCr.out.mono ?_; clear HCr; rintro e w5 ⟨rfl, h5⟩; obtain ⟨kk, hkk, hrc⟩ := h5.out; obtain ⟨⟨r0, rl⟩, r3, rpl⟩ := HC.out _ _ _ _ _ _ _  hrc)
        | fail)
      have HOp := hidb (HOpn.out _ _ _ _ _ _ _  kk hrc (by omega) (hkk) (rfl) (by omega))
      clear a0 a1 a2 a3 al b0 b1 b2 b3 bl r0 rl r3 rpl
      go_wp2_with (first
        | (go_at_call 21; refine HOp.out.mono ?_; clear HOp; rintro e w6 ⟨rfl, h6⟩)
        | fail)
      go_ret
      refine ⟨rfl, hidb ?_⟩
      obtain ⟨jb', vs', h7⟩ := h6.out
      exact ⟨jb', vs', _, _, [], h7.up (by omega), by simp⟩
  by_cases k2 : kind = 2
  · subst k2
    go_upto_region 19 with fail
    clear z0 z1 z2 z3 zl u0 u1 u2 u3 ul
    obtain ⟨⟨a0, a1, a2, a3, al⟩, ⟨b0, b1, b2, b3, bl⟩, -⟩ := HA.out _ _ _ _ _ _ _ _ _ _  (h1.out.below ((Below.refl _ _).drew))
    have HCr := hidb ((h1.out.below ((Below.refl _ _).drew)).crash fa fn fc fates (HFa.out _ (h1.out.below ((Below.refl _ _).drew)).bl))
    go_region_held (fun W => W.cell? ⟨rb, 0, none⟩ = some (.pointer (some ⟨db, 0, none⟩)) ∧ W.cell? ⟨pb, 3, none⟩ = some (.slice fa fn fc) ∧ rb < W.heap.size ∧ pb < W.heap.size) (first | exact ⟨a0, b3, al, bl⟩ | exact ⟨r0, r3, rl, rpl⟩ | go_keep) (first
      | (go_at_call 23; refine HCr.out.mono ?_; clear HCr; rintro e w5 ⟨rfl, h5⟩; obtain ⟨kk, hkk, hrc⟩ := h5.out; obtain ⟨⟨r0, rl⟩, r3, rpl⟩ := HC.out _ _ _ _ _ _ _  hrc)
      | fail)
    have HOp := hidb (HOpn.out _ _ _ _ _ _ _  kk hrc (by omega) (hkk) (rfl) (by omega))
    clear a0 a1 a2 a3 al b0 b1 b2 b3 bl r0 rl r3 rpl
    go_wp2_with (first
      | (go_at_call 21; refine HOp.out.mono ?_; clear HOp; rintro e w6 ⟨rfl, h6⟩)
      | fail)
    go_ret
    refine ⟨rfl, hidb ?_⟩
    obtain ⟨jb', vs', h7⟩ := h6.out
    exact ⟨jb', vs', _, _, [], h7.up (by omega), by simp⟩
  by_cases k3 : kind = 3
  · subst k3
    have HCu := hidb (h1.out.cut (-1) ⟨by omega, by omega⟩)
    go_wp2_with (first
      | (go_at_call 42; refine HCu.out.mono ?_; clear HCu; rintro e w9 ⟨rfl, h9⟩; have HOp := hidb (HOpn.out _ _ _ _ _ _ _ may.length h9.out.calm (by omega) (Nat.le_refl _) (by rw [List.take_length]) (by omega)))
      | (go_at_call 21; refine HOp.out.mono ?_; clear HOp; rintro e w6 ⟨rfl, h6⟩)
      | fail)
    go_ret
    refine ⟨rfl, hidb ?_⟩
    obtain ⟨jb', vs', h7⟩ := h6.out
    exact ⟨jb', vs', _, _, [], h7.up (by omega), by simp⟩
  have d0 : decide (kind = 0) = false := decide_eq_false k0
  have d1 : decide (kind = 1) = false := decide_eq_false k1
  have d2 : decide (kind = 2) = false := decide_eq_false k2
  have d3 : decide (kind = 3) = false := decide_eq_false k3
  go_upto_region 29 with fail
  clear z0 z1 z2 z3 zl u0 u1 u2 u3 ul
  obtain ⟨⟨a0, a1, a2, a3, al⟩, ⟨b0, b1, b2, b3, bl⟩, -⟩ := HA.out _ _ _ _ _ _ _ _ _ _  h1.out
  have HCu := hidb (h1.out.cut (-1) ⟨by omega, by omega⟩)
  go_wp2_with (first
    | (go_at_call 42; refine HCu.out.mono ?_; clear HCu; rintro e w9 ⟨rfl, h9⟩)
    | (go_at_call 13; refine (num_any16 _ _).mono ?_; rintro e wn ⟨rfl, e5⟩; obtain rfl := e5.symm)
    | fail)
  go_ret
  exact ⟨rfl, hidb ⟨jb, _, _, _, _, (h9.out.up (by omega)).drop, by simp⟩⟩
end Go.Proofs.YthmjejmignangaaGreatDoor
