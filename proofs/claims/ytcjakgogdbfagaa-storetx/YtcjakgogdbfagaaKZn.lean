/- Layer 11: the document's Changes. -/
import Derived.Test.YtcjakgogdbfagaaKP
import Derived.Deep.RegionHeld3
namespace Go.Proofs.Ytcjakgogdbfagaa
open Go.RowKit
/-- The copy that grows. -/
def UnI (ab : Nat) (A : Kvs) (w W : World) : Prop := Below w.heap.size w W ∧ w.heap.size ≤ ab ∧ ∃ v, RfAt ab v A W ∧ ∀ q, v.ownBlock = some q → w.heap.size ≤ q
theorem UnI.drewN {ab : Nat} {A : Kvs} {w W : World} (h : UnI ab A w W) (m : Nat) : UnI ab A w (W.drewN m) := by
  obtain ⟨h1, h2, v, h3, h4⟩ := h
  exact ⟨below_drewN h1 m, h2, v, h3.drewN m, h4⟩
theorem UnI.below {ab : Nat} {A : Kvs} {w W W' : World} (h : UnI ab A w W) (k : Below W.heap.size W W') : UnI ab A w W' := by
  obtain ⟨h1, h2, v, h3, h4⟩ := h
  exact ⟨h1.trans (k.mono h1.size), h2, v, h3.below k, h4⟩
theorem UnI.fin {ab : Nat} {A A' : Kvs} {w W W' : World} (h : UnI ab A w W) (k : RFin W ab A' W') : UnI ab A' w W' := by
  obtain ⟨h1, h2, v, h3, h4⟩ := h
  obtain ⟨v', k1, k2, k3⟩ := k
  have hs := h1.size
  exact ⟨h1.trans (k3.toBelow hs (by rintro i rfl; exact h2)), h2, v', k1, fun q e => Nat.le_trans hs (k2 q e)⟩
/-- What Changes leaves. -/
def RChEnd (C : Kvs) (w : World) (e : Ending) (w' : World) : Prop := ∃ v, e = .returned v ∧ w'.ownsRow w.heap.size 73 2 v C.length (cellsP C) ∧ Below w.heap.size w w'
theorem chgD_snoc {M N A : Kvs} {i : Nat} (h : i < A.length) : chgD M N (A.take (i + 1)) = if difB M N A[i].1 = true then chgD M N (A.take i) ++ [A[i]] else chgD M N (A.take i) := by
  unfold chgD
  rw [List.take_succ_eq_append_getElem h, List.filter_append]
  split
  · rename_i e
    rw [List.filter_cons_of_pos (p := fun x : Bt × Bt => difB M N x.1) e, List.filter_nil]
  · rename_i e
    rw [List.filter_cons_of_neg (p := fun x : Bt × Bt => difB M N x.1) e, List.filter_nil, List.append_nil]
theorem difB_vals (M N : Kvs) (k : Bt) : difB M N k = (!((getL M k).getD [] == (getL N k).getD []) || !((getL M k).isSome == (getL N k).isSome)) := by
  unfold difB
  cases getL M k with
  | none => cases getL N k with
    | none => simp
    | some v => simp
  | some u => cases getL N k with
    | none => simp
    | some v =>
      by_cases e : u = v
      · simp [e]
      · simp [e]
set_option maxRecDepth 100000 in
set_option maxHeartbeats 4000000 in
theorem rchanges11 (qb r mb : Nat) (v v2 : Value) (M N : Kvs) (w : World) (hq : RTx qb r mb w) (h1 : RfAt r v M w) (h2 : RfAt mb v2 N w) (sM : SrtL M) (sN : SrtL N) (hM : M.length ≤ 512) (hN : N.length ≤ 512) :
    Calls Try.prog 21 #[.pointer (some ⟨qb, 0, none⟩)] w (RChEnd (chgD M N (unA N M)) w) := by
  obtain ⟨ra, rc, rfl, _⟩ := h1.form
  have HC := hidb (rclone11 mb v2 N w h2 (by omega))
  have HQ := hidb hq
  have H1 := hidb h1
  have H2 := hidb h2
  have HS := hidb (And.intro sM sN)
  obtain ⟨c0, c1⟩ := hq.cells
  obtain ⟨nm, hnm⟩ : ∃ nm, nm = M.length := ⟨_, rfl⟩
  have Hm := hidb hnm
  have HA : Hid (∀ i, SrtL (unA N (M.take i)) ∧ (unA N (M.take i)).length ≤ 1024) := hidb fun i => ⟨unA_srt _ sN, by
    have := unA_len (M.take i) sN
    rw [List.length_take] at this
    omega⟩
  rw [← hnm] at hM
  clear hq h1 h2 sM sN hnm
  go_enter Try.func21, Try.ntmps21
  go_wp2_with (first
    | (go_at_call 31; refine HC.out.mono ?_; clear HC; rintro e w1 ⟨ab, rfl, K1⟩)
    | fail)
  go_loopw [4] (fun iv wr => ∃ i : Nat, iv = .int .i64 i ∧ i ≤ nm ∧ Hid (UnI ab (unA N (M.take i)) w wr)) (fun iv _ => nm - (intOf iv).toNat)
  case atStart =>
    refine ⟨0, rfl, Nat.zero_le _, hidb ?_⟩
    obtain ⟨v, x1, x2, x3, x4⟩ := K1.out
    exact ⟨x4, x2, v, x1, x3⟩
  case round =>
    obtain ⟨i, rfl, hi, HI⟩ := hrel
    clear K1 c0 c1
    have hbw := HI.out.1
    obtain ⟨c0, c1⟩ := (HQ.out.below hbw).cells
    have cr := (H1.out.below hbw).c
    rw [← Hm.out] at cr
    by_cases hlt : i < nm
    · have hil : i < M.length := by rw [← Hm.out]; exact hlt
      obtain ⟨sg, esg, hsg, k0, k1⟩ := row_pairR (H1.out.below hbw).row hil
      subst esg
      have HU := hidb (unA_snoc (N := N) hil)
      obtain ⟨_, hab, va, hA, _⟩ := HI.out
      obtain ⟨sA, lA⟩ := HA.out i
      generalize unA N (M.take i) = L at *
      generalize M[i].1 = kx at *
      have hii0 : (0 : Int) ≤ (i : Int) := by omega
      have hii1 : (i : Int) < (nm : Int) := by omega
      have HG := hidb (rget_any ab va L wr kx hA sA (by omega))
      cases hg : getL L kx with
      | some u =>
        rw [hg] at HG HU
        simp only [Option.getD_some, Option.isSome_some, if_true] at HG HU
        clear hA sA lA hg hbw
        go_wp2_with (first
          | (go_at_call 14; refine HG.out.mono ?_; clear HG; rintro e w2 ⟨rfl, m2, rfl⟩)
          | fail)
        exact ⟨⟨i + 1, by go_num, by omega, hidb (by rw [HU.out]; exact HI.out.drewN m2)⟩, by simp [intOf]; omega⟩
      | none =>
        rw [hg] at HG HU
        simp only [Option.getD_none, Option.isSome_none, Bool.false_eq_true, if_false] at HG HU
        have HF : Hid (∀ m, Calls Try.prog 37 #[.pointer (some ⟨ab, 0, none⟩), sv kx] (wr.drewN m) fun e w' => e = .returned (.tuple #[.int .i64 (posL L kx : Nat), .bool (getL L kx).isSome]) ∧ ∃ m', w' = (wr.drewN m).drewN m') := hidb fun m => rfind_any ab va L (wr.drewN m) kx (hA.drewN m) sA (by omega)
        rw [hg] at HF
        simp only [Option.isSome_none] at HF
        have HP := hidb (putL_pos sA (v := []) hg)
        have hpl := pos_le L kx
        generalize posL L kx = j at HF HP hpl
        obtain ⟨ca, cc, rfl, hcc, hcm⟩ := hA.form
        have HB0 := hidb hA.box
        have HR0 := hidb hA.row
        have hx1 := heap_ltb hA.box
        obtain ⟨n, hn⟩ : ∃ n, n = L.length := ⟨_, rfl⟩
        have Hn := hidb hn
        rw [← hn] at HB0 HR0 hcc hpl lA
        clear hA sA hg hn
        have HX0 : Hid (∀ W, Kt (fun i => i = ab) wr W → W.ownsRow 0 73 2 (.slice ca n cc) L.length (cellsP L) ∧ W.cell? ⟨qb, 0, none⟩ = some (.pointer (some ⟨r, 0, none⟩)) ∧ W.cell? ⟨r, 0, none⟩ = some (.slice (some ⟨sg, 0, none⟩) nm rc) ∧ W.cell? ⟨sg, i * 2, none⟩ = some (sv kx)) := hidb fun W hk => by
          have hr := HR0.out
          rw [Hn.out] at hr
          have hbq : qb ≠ ab := fun e => by
            have := heap_ltb HQ.out
            omega
          have hbr : r ≠ ab := fun e => by
            have := heap_ltb H1.out.box
            omega
          have hbs : sg ≠ ab := fun e => by
            rcases H1.out.row.2 with ⟨e0, _⟩ | ⟨g', cap, cur, e0, hb, hc, _⟩
            · cases e0
            · cases e0
              have := heap_ltb hc
              omega
          have kc : ∀ b o x, b ≠ ab → wr.cell? ⟨b, o, none⟩ = some x → W.cell? ⟨b, o, none⟩ = some x := fun b o x hne hc => by
            have hb := hk.block b (World.block_lt_of_cell? _ _ hc) hne
            simp only [World.cell?, hb] at hc ⊢
            exact hc
          refine ⟨?_, kc _ _ _ hbq c0, kc _ _ _ hbr cr, kc _ _ _ hbs k0⟩
          rw [Hn.out]
          refine row_kt hr hk fun g e => ?_
          rintro rfl
          exact absurd (row_typed hr e HB0.out) (by decide)
        go_wp2_with (first
          | (go_at_call 14; refine HG.out.mono ?_; clear HG; rintro e w2 ⟨rfl, m2, rfl⟩)
          | (go_at_call 37; refine (HF.out _).mono ?_; clear HF; rintro e wx ⟨rfl, E3⟩; have K3 := hidb E3; clear E3)
          | fail)
        have hk0 : Kt (fun i => i = ab) wr wx := by obtain ⟨m3, e3⟩ := K3.out; rw [e3]; exact ((Kt.refl _ wr).drewN m2).drewN m3
        have HX : Hid (∀ W, Kt (fun i => i = ab) wx W → W.ownsRow 0 73 2 (.slice ca n cc) L.length (cellsP L) ∧ W.cell? ⟨qb, 0, none⟩ = some (.pointer (some ⟨r, 0, none⟩)) ∧ W.cell? ⟨r, 0, none⟩ = some (.slice (some ⟨sg, 0, none⟩) nm rc) ∧ W.cell? ⟨sg, i * 2, none⟩ = some (sv kx)) := hidb fun W hk => HX0.out W (hk0.trans hk fun _ _ e => e)
        have HB : Hid (wx.heap[ab]? = some (.cells #[.slice ca n cc] 56 (0, 0))) := hidb (by obtain ⟨m3, e3⟩ := K3.out; rw [e3]; exact HB0.out)
        have hx0 : ab < wx.heap.size := Nat.lt_of_lt_of_le hx1 hk0.size
        have HI2 : Hid (UnI ab L w wx) := hidb (by obtain ⟨m3, e3⟩ := K3.out; rw [e3]; exact (HI.out.drewN m2).drewN m3)
        clear K3 hk0 HX0 HB0 HR0 HI c0 c1 cr k0 k1 hbw hx1
        refine wp_region_each (by kernel_rfl) 158 rfl (by kernel_rfl) (RG32 wx ab (L.take j ++ (kx, []) :: L.drop j)) (MP wx.heap.size n j L (kx, []) (.pointer (some ⟨ab, 0, none⟩)) (.pointer (some ⟨qb, 0, none⟩)) (.pointer (some ⟨r, 0, none⟩)) (.slice ca n cc) (sliced ca 0 j cc 2) (sliced ca j n cc 2) (.int .i64 (j : Int)) (.int .i64 (i : Int)) (.slice (some ⟨sg, 0, none⟩) nm rc) (.pointer (some ⟨sg, i * 2, none⟩))) ?start ?each ?fin
        case start => exact ⟨(Kt.refl _ wx).drewN 1, fun e => absurd e (by decide), fun _ => rfl⟩
        case each =>
          intro ip o' ho' listed act W hE hnl haf
          have hip : ip < 33 := (Array.getElem?_eq_some_iff.1 ho').1
          have t0 : act.tmps[0]?.getD undef = .pointer (some ⟨qb, 0, none⟩) := hE.rest 0 (rest_of (by kernel_rfl))
          have t3 : act.tmps[3]?.getD undef = .pointer (some ⟨ab, 0, none⟩) := hE.rest 3 (rest_of (by kernel_rfl))
          have t4 : act.tmps[4]?.getD undef = .int .i64 (i : Int) := hE.rest 4 (rest_of (by kernel_rfl))
          have t7 : act.tmps[7]?.getD undef = .int .i64 (j : Int) := hE.rest 7 (rest_of (by kernel_rfl))
          have hG := hE.glob
          have hsW : wx.heap.size ≤ W.heap.size := hG.1.size
          have hoff := getD_off hnl
          have hlr : ab < W.heap.size := by omega
          have hn2 : n = L.length := Hn.out
          obtain ⟨hL2, cq, cr, cs⟩ := HX.out W hG.1
          have step : ip ≠ 32 → ∀ vv W', Below W.heap.size W W' → MP wx.heap.size n j L (kx, []) (.pointer (some ⟨ab, 0, none⟩)) (.pointer (some ⟨qb, 0, none⟩)) (.pointer (some ⟨r, 0, none⟩)) (.slice ca n cc) (sliced ca 0 j cc 2) (sliced ca j n cc 2) (.int .i64 (j : Int)) (.int .i64 (i : Int)) (.slice (some ⟨sg, 0, none⟩) nm rc) (.pointer (some ⟨sg, i * 2, none⟩)) (listed.setIfInBounds ip true) ip vv W' → ∃ u, act.put o'.dst vv = act.put o'.dst u ∧ MP wx.heap.size n j L (kx, []) (.pointer (some ⟨ab, 0, none⟩)) (.pointer (some ⟨qb, 0, none⟩)) (.pointer (some ⟨r, 0, none⟩)) (.slice ca n cc) (sliced ca 0 j cc 2) (sliced ca j n cc 2) (.int .i64 (j : Int)) (.int .i64 (i : Int)) (.slice (some ⟨sg, 0, none⟩) nm rc) (.pointer (some ⟨sg, i * 2, none⟩)) (listed.setIfInBounds ip true) ip u W' ∧ RG32 wx ab (L.take j ++ (kx, []) :: L.drop j) (listed.setIfInBounds ip true) W' ∧ ∀ kk uu, listed.getD kk false = true → MP wx.heap.size n j L (kx, []) (.pointer (some ⟨ab, 0, none⟩)) (.pointer (some ⟨qb, 0, none⟩)) (.pointer (some ⟨r, 0, none⟩)) (.slice ca n cc) (sliced ca 0 j cc 2) (sliced ca j n cc 2) (.int .i64 (j : Int)) (.int .i64 (i : Int)) (.slice (some ⟨sg, 0, none⟩) nm rc) (.pointer (some ⟨sg, i * 2, none⟩)) listed kk uu W → MP wx.heap.size n j L (kx, []) (.pointer (some ⟨ab, 0, none⟩)) (.pointer (some ⟨qb, 0, none⟩)) (.pointer (some ⟨r, 0, none⟩)) (.slice ca n cc) (sliced ca 0 j cc 2) (sliced ca j n cc 2) (.int .i64 (j : Int)) (.int .i64 (i : Int)) (.slice (some ⟨sg, 0, none⟩) nm rc) (.pointer (some ⟨sg, i * 2, none⟩)) (listed.setIfInBounds ip true) kk uu W' := fun h32 vv W' hb hv => ⟨vv, rfl, hv, hG.below hlr h32 hb, MP.below hb⟩
          match ip, hip, ho', hnl, haf, hoff, step with
          | 0, _, ho', hnl, haf, hoff, step =>
            obtain rfl := Option.some.inj ho'
            exact op_value (v := .pointer (some ⟨ab, 0, none⟩)) (W' := W) (by simp [execOp, go_sem, t3]) (step (by decide) _ _ (Below.refl _ _) rfl)
          | 1, _, ho', hnl, haf, hoff, step =>
            obtain rfl := Option.some.inj ho'
            exact op_value (v := .slice (some ⟨W.heap.size, 0, none⟩) 0 0) (W' := W.alloc (.cells #[] 73)) (by simp [execOp, go_sem]) (step (by decide) _ _ ((Below.refl _ W).alloc (Nat.le_refl _) _) (.inr ⟨_, rfl, hsW, heap_alloc_new W _⟩))
          | 2, _, ho', hnl, haf, hoff, step =>
            obtain rfl := Option.some.inj ho'
            exact op_value (v := .pointer (some ⟨ab, 0, none⟩)) (W' := W) (by simp [execOp, go_sem, t3]) (step (by decide) _ _ (Below.refl _ _) rfl)
          | 3, _, ho', hnl, haf, hoff, step =>
            obtain rfl := Option.some.inj ho'
            have h2 := hE.vals 2 _ 68 rfl (haf ⟨2, .data⟩ (by simp) rfl) rfl
            simp only [MP] at h2
            exact op_value (v := .pointer (some ⟨ab, 0, none⟩)) (W' := W) (by simp [execOp, go_sem, h2]) (step (by decide) _ _ (Below.refl _ _) rfl)
          | 4, _, ho', hnl, haf, hoff, step =>
            obtain rfl := Option.some.inj ho'
            have h3 := hE.vals 3 _ 69 rfl (haf ⟨3, .data⟩ (by simp) rfl) rfl
            simp only [MP] at h3
            exact op_value (v := .pointer (some ⟨ab, 0, none⟩)) (W' := W) (by simp [execOp, go_sem, h3]) (step (by decide) _ _ (Below.refl _ _) rfl)
          | 5, _, ho', hnl, haf, hoff, step =>
            obtain rfl := Option.some.inj ho'
            have h4 := hE.vals 4 _ 70 rfl (haf ⟨4, .data⟩ (by simp) rfl) rfl
            simp only [MP] at h4
            have h32 : listed.getD 32 false = false := by
              cases e : listed.getD 32 false with
              | false => rfl
              | true => have := (hE.closed 7 _ rfl (hE.closed 8 _ rfl (hE.closed 22 _ rfl (hE.closed 29 _ rfl (hE.closed 32 _ rfl e ⟨29, .data⟩ (by simp) rfl) ⟨22, .data⟩ (by simp) rfl) ⟨8, .data⟩ (by simp) rfl) ⟨7, .data⟩ (by simp) rfl) ⟨5, .data⟩ (by simp) rfl); rw [hoff] at this; cases this
            have cW : W.cell? ⟨ab, 0, none⟩ = some (.slice ca n cc) := by rw [Lib.cell_of_heap ((hG.2.2 h32).trans HB.out)]; rfl
            exact op_value (v := .slice ca n cc) (W' := W) (by simp [execOp, go_sem, h4, cW]) (step (by decide) _ _ (Below.refl _ _) rfl)
          | 6, _, ho', hnl, haf, hoff, step =>
            obtain rfl := Option.some.inj ho'
            exact op_value (v := .int .i64 (j : Int)) (W' := W) (by simp [execOp, go_sem, t7]) (step (by decide) _ _ (Below.refl _ _) rfl)
          | 7, _, ho', hnl, haf, hoff, step =>
            obtain rfl := Option.some.inj ho'
            have h5 := hE.vals 5 _ 71 rfl (haf ⟨5, .data⟩ (by simp) rfl) rfl
            have h6 := hE.vals 6 _ 72 rfl (haf ⟨6, .data⟩ (by simp) rfl) rfl
            simp only [MP] at h5 h6
            exact op_value (v := sliced ca 0 j cc 2) (W' := W) (by simp [execOp, eval_tmp, h5, h6, slice_h_runR W ca n cc j (by omega)]) (step (by decide) _ _ (Below.refl _ _) rfl)
          | 8, _, ho', hnl, haf, hoff, step =>
            obtain rfl := Option.some.inj ho'
            have h1 := hE.vals 1 _ 67 rfl (haf ⟨1, .data⟩ (by simp) rfl) rfl
            have h7 := hE.vals 7 _ 73 rfl (haf ⟨7, .data⟩ (by simp) rfl) rfl
            simp only [MP] at h1 h7
            rw [hoff] at h1
            rcases h1 with h1 | ⟨g, hu, hgb, hgl⟩
            · cases h1
            have hl := lies_pieceR hL2 (Nat.zero_le j) (by omega : j ≤ L.length)
            rw [Nat.sub_zero, List.drop_zero] at hl
            refine wp_app0 W (.tmp 67) (.tmp 73) 49 rfl elemN_pairR wx.heap.size g hgb hgl ((eval_tmp _ _).trans hu) _ ((eval_tmp _ _).trans h7) j (cellsP (L.take j)) hl (by rw [cellsP_len, List.length_take]; omega) (cellsP_one _) (by unfold maxLen; omega) (by omega) hsW ?_
            intro v' W' hr' hb'
            exact step (by decide) _ _ hb' (.inr hr')
          | 9, _, ho', hnl, haf, hoff, step =>
            obtain rfl := Option.some.inj ho'
            exact op_value (v := .pointer (some ⟨qb, 0, none⟩)) (W' := W) (by simp [execOp, go_sem, t0]) (step (by decide) _ _ (Below.refl _ _) rfl)
          | 10, _, ho', hnl, haf, hoff, step =>
            obtain rfl := Option.some.inj ho'
            have h9 := hE.vals 9 _ 75 rfl (haf ⟨9, .data⟩ (by simp) rfl) rfl
            simp only [MP] at h9
            exact op_value (v := .pointer (some ⟨qb, 0, none⟩)) (W' := W) (by simp [execOp, go_sem, h9]) (step (by decide) _ _ (Below.refl _ _) rfl)
          | 11, _, ho', hnl, haf, hoff, step =>
            obtain rfl := Option.some.inj ho'
            have h10 := hE.vals 10 _ 76 rfl (haf ⟨10, .data⟩ (by simp) rfl) rfl
            simp only [MP] at h10
            exact op_value (v := .pointer (some ⟨qb, 0, none⟩)) (W' := W) (by simp [execOp, go_sem, h10]) (step (by decide) _ _ (Below.refl _ _) rfl)
          | 12, _, ho', hnl, haf, hoff, step =>
            obtain rfl := Option.some.inj ho'
            have h11 := hE.vals 11 _ 77 rfl (haf ⟨11, .data⟩ (by simp) rfl) rfl
            simp only [MP] at h11
            exact op_value (v := .pointer (some ⟨r, 0, none⟩)) (W' := W) (by simp [execOp, go_sem, h11, cq]) (step (by decide) _ _ (Below.refl _ _) rfl)
          | 13, _, ho', hnl, haf, hoff, step =>
            obtain rfl := Option.some.inj ho'
            have h12 := hE.vals 12 _ 78 rfl (haf ⟨12, .data⟩ (by simp) rfl) rfl
            simp only [MP] at h12
            exact op_value (v := .pointer (some ⟨r, 0, none⟩)) (W' := W) (by simp [execOp, go_sem, h12]) (step (by decide) _ _ (Below.refl _ _) rfl)
          | 14, _, ho', hnl, haf, hoff, step =>
            obtain rfl := Option.some.inj ho'
            have h13 := hE.vals 13 _ 79 rfl (haf ⟨13, .data⟩ (by simp) rfl) rfl
            simp only [MP] at h13
            exact op_value (v := .pointer (some ⟨r, 0, none⟩)) (W' := W) (by simp [execOp, go_sem, h13]) (step (by decide) _ _ (Below.refl _ _) rfl)
          | 15, _, ho', hnl, haf, hoff, step =>
            obtain rfl := Option.some.inj ho'
            have h14 := hE.vals 14 _ 80 rfl (haf ⟨14, .data⟩ (by simp) rfl) rfl
            simp only [MP] at h14
            exact op_value (v := .slice (some ⟨sg, 0, none⟩) nm rc) (W' := W) (by simp [execOp, go_sem, h14, cr]) (step (by decide) _ _ (Below.refl _ _) rfl)
          | 16, _, ho', hnl, haf, hoff, step =>
            obtain rfl := Option.some.inj ho'
            exact op_value (v := .int .i64 (i : Int)) (W' := W) (by simp [execOp, go_sem, t4]) (step (by decide) _ _ (Below.refl _ _) rfl)
          | 17, _, ho', hnl, haf, hoff, step =>
            obtain rfl := Option.some.inj ho'
            have h15 := hE.vals 15 _ 81 rfl (haf ⟨15, .data⟩ (by simp) rfl) rfl
            have h16 := hE.vals 16 _ 82 rfl (haf ⟨16, .data⟩ (by simp) rfl) rfl
            simp only [MP] at h15 h16
            exact op_value (v := .pointer (some ⟨sg, i * 2, none⟩)) (W' := W) (by simp [execOp, go_sem, h15, h16, hii0, hii1]) (step (by decide) _ _ (Below.refl _ _) rfl)
          | 18, _, ho', hnl, haf, hoff, step =>
            obtain rfl := Option.some.inj ho'
            have h17 := hE.vals 17 _ 83 rfl (haf ⟨17, .data⟩ (by simp) rfl) rfl
            simp only [MP] at h17
            exact op_value (v := .pointer (some ⟨sg, i * 2, none⟩)) (W' := W) (by simp [execOp, go_sem, h17]) (step (by decide) _ _ (Below.refl _ _) rfl)
          | 19, _, ho', hnl, haf, hoff, step =>
            obtain rfl := Option.some.inj ho'
            have h18 := hE.vals 18 _ 84 rfl (haf ⟨18, .data⟩ (by simp) rfl) rfl
            simp only [MP] at h18
            exact op_value (v := sv kx) (W' := W) (by simp [execOp, go_sem, h18, cs]) (step (by decide) _ _ (Below.refl _ _) rfl)
          | 20, _, ho', hnl, haf, hoff, step =>
            obtain rfl := Option.some.inj ho'
            have h19 := hE.vals 19 _ 85 rfl (haf ⟨19, .data⟩ (by simp) rfl) rfl
            simp only [MP] at h19
            exact op_value (v := .agg #[sv kx, sv []]) (W' := W) (by simp [execOp, go_sem, h19]) (step (by decide) _ _ (Below.refl _ _) rfl)
          | 21, _, ho', hnl, haf, hoff, step =>
            obtain rfl := Option.some.inj ho'
            have h20 := hE.vals 20 _ 86 rfl (haf ⟨20, .data⟩ (by simp) rfl) rfl
            simp only [MP] at h20
            exact op_value (v := .slice (some ⟨W.heap.size, 0, none⟩) 1 1) (W' := W.alloc (.cells #[sv kx, sv []] 73)) (by simp [execOp, go_sem, h20]) (step (by decide) _ _ ((Below.refl _ W).alloc (Nat.le_refl _) _) (.inr ⟨_, rfl, heap_alloc_new W _⟩))
          | 22, _, ho', hnl, haf, hoff, step =>
            obtain rfl := Option.some.inj ho'
            have l8 := haf ⟨8, .data⟩ (by simp) rfl
            have l21 := haf ⟨21, .data⟩ (by simp) rfl
            have h8 := hE.vals 8 _ 74 rfl l8 rfl
            have h21 := hE.vals 21 _ 87 rfl l21 rfl
            simp only [MP] at h8 h21
            rw [hoff] at h8 h21
            rcases h8 with h8 | h8
            · cases h8
            rcases h21 with h21 | ⟨g, h21, hg⟩
            · cases h21
            refine wp_appN W (.tmp 74) (.tmp 87) 49 rfl elemN_pairR wx.heap.size _ j (cellsP (L.take j)) (eval_tmp _ _) h8 _ ((eval_tmp _ _).trans h21) 1 (cellsP [(kx, [])]) (.inr ⟨⟨g, 0, none⟩, 1, rfl, row_cellsR (x := (kx, [])) hg⟩) rfl (cellsP_one _) (by unfold maxLen; omega) (by omega) hsW ?_
            intro v' W' hr' hs'
            refine ⟨v', rfl, .inr hr', ?_, ?_⟩
            · have h32 : listed.getD 32 false = false := by
                cases e : listed.getD 32 false with
                | false => rfl
                | true => have := (hE.closed 29 _ rfl (hE.closed 32 _ rfl e ⟨29, .data⟩ (by simp) rfl) ⟨22, .data⟩ (by simp) rfl); rw [hoff] at this; cases this
              have hB := hs'.below hsW fun q h => (h8.lt q h).1
              exact ⟨hG.1.trans (below_toKt (S := fun i => wx.heap.size ≤ i) hB fun i _ e => e) fun i hi e => by omega, fun e => (by rw [getD_ne (by decide), h32] at e; cases e), fun _ => (hB.block _ hx0).trans (hG.2.2 h32)⟩
            intro q u hq h
            have n22 : q ≠ 22 := fun e => by subst e; rw [hoff] at hq; cases hq
            have n29 : q ≠ 29 := fun e0 => by
              subst e0
              have := hE.closed 29 _ rfl hq ⟨22, .data⟩ (by simp) rfl
              rw [hoff] at this; cases this
            have s22 : (listed.setIfInBounds 22 true).getD 22 false = true := by rw [getD_set, if_pos ⟨rfl, getD_lt hnl⟩]
            unfold MP at h ⊢
            split at h
            all_goals first
              | exact h
              | exact .inl (getD_moreK l8)
              | exact .inl s22
              | exact absurd rfl n22
              | exact absurd rfl n29
          | 23, _, ho', hnl, haf, hoff, step =>
            obtain rfl := Option.some.inj ho'
            exact op_value (v := .pointer (some ⟨ab, 0, none⟩)) (W' := W) (by simp [execOp, go_sem, t3]) (step (by decide) _ _ (Below.refl _ _) rfl)
          | 24, _, ho', hnl, haf, hoff, step =>
            obtain rfl := Option.some.inj ho'
            have h23 := hE.vals 23 _ 89 rfl (haf ⟨23, .data⟩ (by simp) rfl) rfl
            simp only [MP] at h23
            exact op_value (v := .pointer (some ⟨ab, 0, none⟩)) (W' := W) (by simp [execOp, go_sem, h23]) (step (by decide) _ _ (Below.refl _ _) rfl)
          | 25, _, ho', hnl, haf, hoff, step =>
            obtain rfl := Option.some.inj ho'
            have h24 := hE.vals 24 _ 90 rfl (haf ⟨24, .data⟩ (by simp) rfl) rfl
            simp only [MP] at h24
            exact op_value (v := .pointer (some ⟨ab, 0, none⟩)) (W' := W) (by simp [execOp, go_sem, h24]) (step (by decide) _ _ (Below.refl _ _) rfl)
          | 26, _, ho', hnl, haf, hoff, step =>
            obtain rfl := Option.some.inj ho'
            have h25 := hE.vals 25 _ 91 rfl (haf ⟨25, .data⟩ (by simp) rfl) rfl
            simp only [MP] at h25
            have h32 : listed.getD 32 false = false := by
              cases e : listed.getD 32 false with
              | false => rfl
              | true => have := (hE.closed 28 _ rfl (hE.closed 29 _ rfl (hE.closed 32 _ rfl e ⟨29, .data⟩ (by simp) rfl) ⟨28, .data⟩ (by simp) rfl) ⟨26, .data⟩ (by simp) rfl); rw [hoff] at this; cases this
            have cW : W.cell? ⟨ab, 0, none⟩ = some (.slice ca n cc) := by rw [Lib.cell_of_heap ((hG.2.2 h32).trans HB.out)]; rfl
            exact op_value (v := .slice ca n cc) (W' := W) (by simp [execOp, go_sem, h25, cW]) (step (by decide) _ _ (Below.refl _ _) rfl)
          | 27, _, ho', hnl, haf, hoff, step =>
            obtain rfl := Option.some.inj ho'
            exact op_value (v := .int .i64 (j : Int)) (W' := W) (by simp [execOp, go_sem, t7]) (step (by decide) _ _ (Below.refl _ _) rfl)
          | 28, _, ho', hnl, haf, hoff, step =>
            obtain rfl := Option.some.inj ho'
            have h26 := hE.vals 26 _ 92 rfl (haf ⟨26, .data⟩ (by simp) rfl) rfl
            have h27 := hE.vals 27 _ 93 rfl (haf ⟨27, .data⟩ (by simp) rfl) rfl
            simp only [MP] at h26 h27
            exact op_value (v := sliced ca j n cc 2) (W' := W) (by simp [execOp, eval_tmp, h26, h27, slice_l_runR W ca n cc j (by omega)]) (step (by decide) _ _ (Below.refl _ _) rfl)
          | 29, _, ho', hnl, haf, hoff, step =>
            obtain rfl := Option.some.inj ho'
            have l22 := haf ⟨22, .data⟩ (by simp) rfl
            have h22 := hE.vals 22 _ 88 rfl l22 rfl
            have h28 := hE.vals 28 _ 94 rfl (haf ⟨28, .data⟩ (by simp) rfl) rfl
            simp only [MP] at h22 h28
            rw [hoff] at h22
            rcases h22 with h22 | h22
            · cases h22
            have hl := lies_pieceR hL2 (by omega : j ≤ n) (by omega : n ≤ L.length)
            rw [List.take_of_length_le (by omega : L.length ≤ n)] at hl
            refine wp_appN W (.tmp 88) (.tmp 94) 49 rfl elemN_pairR wx.heap.size _ (j + 1) (cellsP (L.take j) ++ cellsP [(kx, [])]) (eval_tmp _ _) h22 _ ((eval_tmp _ _).trans h28) (n - j) (cellsP (L.drop j)) hl (by rw [cellsP_len, List.length_drop]; omega) (cellsP_one _) (by unfold maxLen; omega) (by omega) hsW ?_
            intro v' W' hr' hs'
            refine ⟨v', rfl, .inr hr', ?_, ?_⟩
            · have h32 : listed.getD 32 false = false := by
                cases e : listed.getD 32 false with
                | false => rfl
                | true => have := (hE.closed 32 _ rfl e ⟨29, .data⟩ (by simp) rfl); rw [hoff] at this; cases this
              have hB := hs'.below hsW fun q h => (h22.lt q h).1
              exact ⟨hG.1.trans (below_toKt (S := fun i => wx.heap.size ≤ i) hB fun i _ e => e) fun i hi e => by omega, fun e => (by rw [getD_ne (by decide), h32] at e; cases e), fun _ => (hB.block _ hx0).trans (hG.2.2 h32)⟩
            intro q u hq h
            have n29 : q ≠ 29 := fun e => by subst e; rw [hoff] at hq; cases hq
            have l8 := hE.closed 22 _ rfl l22 ⟨8, .data⟩ (by simp) rfl
            have s29 : (listed.setIfInBounds 29 true).getD 29 false = true := by rw [getD_set, if_pos ⟨rfl, getD_lt hnl⟩]
            unfold MP at h ⊢
            split at h
            all_goals first
              | exact h
              | exact .inl (getD_moreK l8)
              | exact .inl (getD_moreK l22)
              | exact .inl s29
              | exact absurd rfl n29
          | 30, _, ho', hnl, haf, hoff, step =>
            obtain rfl := Option.some.inj ho'
            have h0 := hE.vals 0 _ 66 rfl (haf ⟨0, .data⟩ (by simp) rfl) rfl
            simp only [MP] at h0
            exact op_value (v := .pointer (some ⟨ab, 0, none⟩)) (W' := W) (by simp [execOp, go_sem, h0]) (step (by decide) _ _ (Below.refl _ _) rfl)
          | 31, _, ho', hnl, haf, hoff, step =>
            obtain rfl := Option.some.inj ho'
            have h30 := hE.vals 30 _ 96 rfl (haf ⟨30, .data⟩ (by simp) rfl) rfl
            simp only [MP] at h30
            exact op_value (v := .pointer (some ⟨ab, 0, none⟩)) (W' := W) (by simp [execOp, go_sem, h30]) (step (by decide) _ _ (Below.refl _ _) rfl)
          | 32, _, ho', hnl, haf, hoff, step =>
            obtain rfl := Option.some.inj ho'
            have l29 := haf ⟨29, .data⟩ (by simp) rfl
            have h29 := hE.vals 29 _ 95 rfl l29 rfl
            have h31 := hE.vals 31 _ 97 rfl (haf ⟨31, .data⟩ (by simp) rfl) rfl
            simp only [MP] at h29 h31
            rw [hoff] at h29
            rcases h29 with h29 | h29
            · cases h29
            have hbx : W.heap[ab]? = some (.cells #[.slice ca n cc] 56 (0, 0)) := (hG.2.2 hoff).trans HB.out
            have cW : W.cell? ⟨ab, 0, none⟩ = some (.slice ca n cc) := Lib.cell_of_heap hbx 0
            have zW : W.frozen? ⟨ab, 0, none⟩ = false := Lib.frozen_of_heap hbx 0
            obtain ⟨a9, c9, e9, _⟩ := row_form h29
            have hfin := rfin_store (L' := L.take j ++ (kx, []) :: L.drop j) hG.1 hbx hx0 h29 (by simp only [List.length_append, List.length_take, List.length_cons, List.length_drop]; omega) (by rw [cellsP_app, cellsP_consK]; simp [cellsP])
            have l22 := hE.closed 29 _ rfl l29 ⟨22, .data⟩ (by simp) rfl
            have l8 := hE.closed 22 _ rfl l22 ⟨8, .data⟩ (by simp) rfl
            have s32 : (listed.setIfInBounds 32 true).getD 32 false = true := by rw [getD_set, if_pos ⟨rfl, getD_lt hnl⟩]
            rw [e9] at hfin
            refine op_skip (W' := W.setCell ⟨ab, 0, none⟩ (.slice a9 (j + 1 + (n - j)) c9)) (by simp [execOp, go_sem, h31, e9, cW, zW]) ?_
            refine ⟨undef, rfl, trivial, ⟨by obtain ⟨_, _, _, h3⟩ := hfin; exact h3, fun _ => hfin, fun e => by rw [s32] at e; cases e⟩, ?_⟩
            intro q u hq h
            unfold MP at h ⊢
            split at h
            all_goals first
              | exact h
              | exact .inl (getD_moreK l8)
              | exact .inl (getD_moreK l22)
              | exact .inl (getD_moreK l29)
              | exact .inl s32
        case fin =>
          intro act W hE
          have HF := hidb (hE.glob.2.1 rfl)
          have hsz := hE.tsize
          have hdf := hE.defers
          have rr := fun t h => hE.rest t h
          obtain ⟨tm, df⟩ := act
          simp only at hsz hdf rr
          have htm := arr_out 158 tm (by rw [hsz]; rfl) undef
          simp only [List.range, List.range.loop, List.map_cons, List.map_nil] at htm
          rw [show tm[0]?.getD undef = _ from rr 0 (rest_of (by kernel_rfl))] at htm
          rw [show tm[1]?.getD undef = _ from rr 1 (rest_of (by kernel_rfl))] at htm
          rw [show tm[2]?.getD undef = _ from rr 2 (rest_of (by kernel_rfl))] at htm
          rw [show tm[3]?.getD undef = _ from rr 3 (rest_of (by kernel_rfl))] at htm
          rw [show tm[4]?.getD undef = _ from rr 4 (rest_of (by kernel_rfl))] at htm
          rw [show tm[5]?.getD undef = _ from rr 5 (rest_of (by kernel_rfl))] at htm
          rw [show tm[6]?.getD undef = _ from rr 6 (rest_of (by kernel_rfl))] at htm
          rw [show tm[7]?.getD undef = _ from rr 7 (rest_of (by kernel_rfl))] at htm
          rw [show tm[8]?.getD undef = _ from rr 8 (rest_of (by kernel_rfl))] at htm
          rw [show tm[9]?.getD undef = _ from rr 9 (rest_of (by kernel_rfl))] at htm
          rw [show tm[10]?.getD undef = _ from rr 10 (rest_of (by kernel_rfl))] at htm
          rw [show tm[11]?.getD undef = _ from rr 11 (rest_of (by kernel_rfl))] at htm
          rw [show tm[12]?.getD undef = _ from rr 12 (rest_of (by kernel_rfl))] at htm
          rw [show tm[13]?.getD undef = _ from rr 13 (rest_of (by kernel_rfl))] at htm
          rw [show tm[14]?.getD undef = _ from rr 14 (rest_of (by kernel_rfl))] at htm
          rw [show tm[15]?.getD undef = _ from rr 15 (rest_of (by kernel_rfl))] at htm
          rw [show tm[16]?.getD undef = _ from rr 16 (rest_of (by kernel_rfl))] at htm
          rw [show tm[17]?.getD undef = _ from rr 17 (rest_of (by kernel_rfl))] at htm
          rw [show tm[18]?.getD undef = _ from rr 18 (rest_of (by kernel_rfl))] at htm
          rw [show tm[19]?.getD undef = _ from rr 19 (rest_of (by kernel_rfl))] at htm
          rw [show tm[20]?.getD undef = _ from rr 20 (rest_of (by kernel_rfl))] at htm
          rw [show tm[21]?.getD undef = _ from rr 21 (rest_of (by kernel_rfl))] at htm
          rw [show tm[22]?.getD undef = _ from rr 22 (rest_of (by kernel_rfl))] at htm
          rw [show tm[23]?.getD undef = _ from rr 23 (rest_of (by kernel_rfl))] at htm
          rw [show tm[24]?.getD undef = _ from rr 24 (rest_of (by kernel_rfl))] at htm
          rw [show tm[25]?.getD undef = _ from rr 25 (rest_of (by kernel_rfl))] at htm
          rw [show tm[26]?.getD undef = _ from rr 26 (rest_of (by kernel_rfl))] at htm
          rw [show tm[27]?.getD undef = _ from rr 27 (rest_of (by kernel_rfl))] at htm
          rw [show tm[28]?.getD undef = _ from rr 28 (rest_of (by kernel_rfl))] at htm
          rw [show tm[29]?.getD undef = _ from rr 29 (rest_of (by kernel_rfl))] at htm
          rw [show tm[30]?.getD undef = _ from rr 30 (rest_of (by kernel_rfl))] at htm
          rw [show tm[31]?.getD undef = _ from rr 31 (rest_of (by kernel_rfl))] at htm
          rw [show tm[32]?.getD undef = _ from rr 32 (rest_of (by kernel_rfl))] at htm
          rw [show tm[33]?.getD undef = _ from rr 33 (rest_of (by kernel_rfl))] at htm
          rw [show tm[34]?.getD undef = _ from rr 34 (rest_of (by kernel_rfl))] at htm
          rw [show tm[35]?.getD undef = _ from rr 35 (rest_of (by kernel_rfl))] at htm
          rw [show tm[36]?.getD undef = _ from rr 36 (rest_of (by kernel_rfl))] at htm
          rw [show tm[37]?.getD undef = _ from rr 37 (rest_of (by kernel_rfl))] at htm
          rw [show tm[38]?.getD undef = _ from rr 38 (rest_of (by kernel_rfl))] at htm
          rw [show tm[39]?.getD undef = _ from rr 39 (rest_of (by kernel_rfl))] at htm
          rw [show tm[40]?.getD undef = _ from rr 40 (rest_of (by kernel_rfl))] at htm
          rw [show tm[41]?.getD undef = _ from rr 41 (rest_of (by kernel_rfl))] at htm
          rw [show tm[42]?.getD undef = _ from rr 42 (rest_of (by kernel_rfl))] at htm
          rw [show tm[43]?.getD undef = _ from rr 43 (rest_of (by kernel_rfl))] at htm
          rw [show tm[44]?.getD undef = _ from rr 44 (rest_of (by kernel_rfl))] at htm
          rw [show tm[45]?.getD undef = _ from rr 45 (rest_of (by kernel_rfl))] at htm
          rw [show tm[46]?.getD undef = _ from rr 46 (rest_of (by kernel_rfl))] at htm
          rw [show tm[47]?.getD undef = _ from rr 47 (rest_of (by kernel_rfl))] at htm
          rw [show tm[48]?.getD undef = _ from rr 48 (rest_of (by kernel_rfl))] at htm
          rw [show tm[49]?.getD undef = _ from rr 49 (rest_of (by kernel_rfl))] at htm
          rw [show tm[50]?.getD undef = _ from rr 50 (rest_of (by kernel_rfl))] at htm
          rw [show tm[51]?.getD undef = _ from rr 51 (rest_of (by kernel_rfl))] at htm
          rw [show tm[52]?.getD undef = _ from rr 52 (rest_of (by kernel_rfl))] at htm
          rw [show tm[53]?.getD undef = _ from rr 53 (rest_of (by kernel_rfl))] at htm
          rw [show tm[54]?.getD undef = _ from rr 54 (rest_of (by kernel_rfl))] at htm
          rw [show tm[55]?.getD undef = _ from rr 55 (rest_of (by kernel_rfl))] at htm
          rw [show tm[56]?.getD undef = _ from rr 56 (rest_of (by kernel_rfl))] at htm
          rw [show tm[57]?.getD undef = _ from rr 57 (rest_of (by kernel_rfl))] at htm
          rw [show tm[58]?.getD undef = _ from rr 58 (rest_of (by kernel_rfl))] at htm
          rw [show tm[59]?.getD undef = _ from rr 59 (rest_of (by kernel_rfl))] at htm
          rw [show tm[60]?.getD undef = _ from rr 60 (rest_of (by kernel_rfl))] at htm
          rw [show tm[61]?.getD undef = _ from rr 61 (rest_of (by kernel_rfl))] at htm
          rw [show tm[62]?.getD undef = _ from rr 62 (rest_of (by kernel_rfl))] at htm
          rw [show tm[63]?.getD undef = _ from rr 63 (rest_of (by kernel_rfl))] at htm
          rw [show tm[64]?.getD undef = _ from rr 64 (rest_of (by kernel_rfl))] at htm
          rw [show tm[65]?.getD undef = _ from rr 65 (rest_of (by kernel_rfl))] at htm
          rw [show tm[98]?.getD undef = _ from rr 98 (rest_of (by kernel_rfl))] at htm
          rw [show tm[99]?.getD undef = _ from rr 99 (rest_of (by kernel_rfl))] at htm
          rw [show tm[100]?.getD undef = _ from rr 100 (rest_of (by kernel_rfl))] at htm
          rw [show tm[101]?.getD undef = _ from rr 101 (rest_of (by kernel_rfl))] at htm
          rw [show tm[102]?.getD undef = _ from rr 102 (rest_of (by kernel_rfl))] at htm
          rw [show tm[103]?.getD undef = _ from rr 103 (rest_of (by kernel_rfl))] at htm
          rw [show tm[104]?.getD undef = _ from rr 104 (rest_of (by kernel_rfl))] at htm
          rw [show tm[105]?.getD undef = _ from rr 105 (rest_of (by kernel_rfl))] at htm
          rw [show tm[106]?.getD undef = _ from rr 106 (rest_of (by kernel_rfl))] at htm
          rw [show tm[107]?.getD undef = _ from rr 107 (rest_of (by kernel_rfl))] at htm
          rw [show tm[108]?.getD undef = _ from rr 108 (rest_of (by kernel_rfl))] at htm
          rw [show tm[109]?.getD undef = _ from rr 109 (rest_of (by kernel_rfl))] at htm
          rw [show tm[110]?.getD undef = _ from rr 110 (rest_of (by kernel_rfl))] at htm
          rw [show tm[111]?.getD undef = _ from rr 111 (rest_of (by kernel_rfl))] at htm
          rw [show tm[112]?.getD undef = _ from rr 112 (rest_of (by kernel_rfl))] at htm
          rw [show tm[113]?.getD undef = _ from rr 113 (rest_of (by kernel_rfl))] at htm
          rw [show tm[114]?.getD undef = _ from rr 114 (rest_of (by kernel_rfl))] at htm
          rw [show tm[115]?.getD undef = _ from rr 115 (rest_of (by kernel_rfl))] at htm
          rw [show tm[116]?.getD undef = _ from rr 116 (rest_of (by kernel_rfl))] at htm
          rw [show tm[117]?.getD undef = _ from rr 117 (rest_of (by kernel_rfl))] at htm
          rw [show tm[118]?.getD undef = _ from rr 118 (rest_of (by kernel_rfl))] at htm
          rw [show tm[119]?.getD undef = _ from rr 119 (rest_of (by kernel_rfl))] at htm
          rw [show tm[120]?.getD undef = _ from rr 120 (rest_of (by kernel_rfl))] at htm
          rw [show tm[121]?.getD undef = _ from rr 121 (rest_of (by kernel_rfl))] at htm
          rw [show tm[122]?.getD undef = _ from rr 122 (rest_of (by kernel_rfl))] at htm
          rw [show tm[123]?.getD undef = _ from rr 123 (rest_of (by kernel_rfl))] at htm
          rw [show tm[124]?.getD undef = _ from rr 124 (rest_of (by kernel_rfl))] at htm
          rw [show tm[125]?.getD undef = _ from rr 125 (rest_of (by kernel_rfl))] at htm
          rw [show tm[126]?.getD undef = _ from rr 126 (rest_of (by kernel_rfl))] at htm
          rw [show tm[127]?.getD undef = _ from rr 127 (rest_of (by kernel_rfl))] at htm
          rw [show tm[128]?.getD undef = _ from rr 128 (rest_of (by kernel_rfl))] at htm
          rw [show tm[129]?.getD undef = _ from rr 129 (rest_of (by kernel_rfl))] at htm
          rw [show tm[130]?.getD undef = _ from rr 130 (rest_of (by kernel_rfl))] at htm
          rw [show tm[131]?.getD undef = _ from rr 131 (rest_of (by kernel_rfl))] at htm
          rw [show tm[132]?.getD undef = _ from rr 132 (rest_of (by kernel_rfl))] at htm
          rw [show tm[133]?.getD undef = _ from rr 133 (rest_of (by kernel_rfl))] at htm
          rw [show tm[134]?.getD undef = _ from rr 134 (rest_of (by kernel_rfl))] at htm
          rw [show tm[135]?.getD undef = _ from rr 135 (rest_of (by kernel_rfl))] at htm
          rw [show tm[136]?.getD undef = _ from rr 136 (rest_of (by kernel_rfl))] at htm
          rw [show tm[137]?.getD undef = _ from rr 137 (rest_of (by kernel_rfl))] at htm
          rw [show tm[138]?.getD undef = _ from rr 138 (rest_of (by kernel_rfl))] at htm
          rw [show tm[139]?.getD undef = _ from rr 139 (rest_of (by kernel_rfl))] at htm
          rw [show tm[140]?.getD undef = _ from rr 140 (rest_of (by kernel_rfl))] at htm
          rw [show tm[141]?.getD undef = _ from rr 141 (rest_of (by kernel_rfl))] at htm
          rw [show tm[142]?.getD undef = _ from rr 142 (rest_of (by kernel_rfl))] at htm
          rw [show tm[143]?.getD undef = _ from rr 143 (rest_of (by kernel_rfl))] at htm
          rw [show tm[144]?.getD undef = _ from rr 144 (rest_of (by kernel_rfl))] at htm
          rw [show tm[145]?.getD undef = _ from rr 145 (rest_of (by kernel_rfl))] at htm
          rw [show tm[146]?.getD undef = _ from rr 146 (rest_of (by kernel_rfl))] at htm
          rw [show tm[147]?.getD undef = _ from rr 147 (rest_of (by kernel_rfl))] at htm
          rw [show tm[148]?.getD undef = _ from rr 148 (rest_of (by kernel_rfl))] at htm
          rw [show tm[149]?.getD undef = _ from rr 149 (rest_of (by kernel_rfl))] at htm
          rw [show tm[150]?.getD undef = _ from rr 150 (rest_of (by kernel_rfl))] at htm
          rw [show tm[151]?.getD undef = _ from rr 151 (rest_of (by kernel_rfl))] at htm
          rw [show tm[152]?.getD undef = _ from rr 152 (rest_of (by kernel_rfl))] at htm
          rw [show tm[153]?.getD undef = _ from rr 153 (rest_of (by kernel_rfl))] at htm
          rw [show tm[154]?.getD undef = _ from rr 154 (rest_of (by kernel_rfl))] at htm
          rw [show tm[155]?.getD undef = _ from rr 155 (rest_of (by kernel_rfl))] at htm
          rw [show tm[156]?.getD undef = _ from rr 156 (rest_of (by kernel_rfl))] at htm
          rw [show tm[157]?.getD undef = _ from rr 157 (rest_of (by kernel_rfl))] at htm
          generalize tm[66]?.getD undef = z66 at htm
          generalize tm[67]?.getD undef = z67 at htm
          generalize tm[68]?.getD undef = z68 at htm
          generalize tm[69]?.getD undef = z69 at htm
          generalize tm[70]?.getD undef = z70 at htm
          generalize tm[71]?.getD undef = z71 at htm
          generalize tm[72]?.getD undef = z72 at htm
          generalize tm[73]?.getD undef = z73 at htm
          generalize tm[74]?.getD undef = z74 at htm
          generalize tm[75]?.getD undef = z75 at htm
          generalize tm[76]?.getD undef = z76 at htm
          generalize tm[77]?.getD undef = z77 at htm
          generalize tm[78]?.getD undef = z78 at htm
          generalize tm[79]?.getD undef = z79 at htm
          generalize tm[80]?.getD undef = z80 at htm
          generalize tm[81]?.getD undef = z81 at htm
          generalize tm[82]?.getD undef = z82 at htm
          generalize tm[83]?.getD undef = z83 at htm
          generalize tm[84]?.getD undef = z84 at htm
          generalize tm[85]?.getD undef = z85 at htm
          generalize tm[86]?.getD undef = z86 at htm
          generalize tm[87]?.getD undef = z87 at htm
          generalize tm[88]?.getD undef = z88 at htm
          generalize tm[89]?.getD undef = z89 at htm
          generalize tm[90]?.getD undef = z90 at htm
          generalize tm[91]?.getD undef = z91 at htm
          generalize tm[92]?.getD undef = z92 at htm
          generalize tm[93]?.getD undef = z93 at htm
          generalize tm[94]?.getD undef = z94 at htm
          generalize tm[95]?.getD undef = z95 at htm
          generalize tm[96]?.getD undef = z96 at htm
          generalize tm[97]?.getD undef = z97 at htm
          simp only [List.getElem?_toArray, List.getElem?_cons_succ, List.getElem?_cons_zero, Option.getD_some] at htm
          subst hdf
          rw [htm]
          clear hE htm hsz rr
          go_wp2_with fail
          exact ⟨⟨i + 1, by go_num, by omega, hidb (by rw [HU.out, HP.out]; exact HI2.out.fin HF.out)⟩, by simp [intOf]; omega⟩
    · have et : M.take i = M := List.take_of_length_le (by rw [← Hm.out]; omega)
      rw [et] at HI
      clear et
      have HAf : Hid (SrtL (unA N M) ∧ (unA N M).length ≤ 1024) := hidb (by
        have := HA.out M.length
        rwa [List.take_length] at this)
      clear HA
      go_wp2_with fail
      clear c0 c1 cr hbw
      obtain ⟨W1, hW1⟩ : ∃ W1, W1 = wr := ⟨_, rfl⟩
      rw [← hW1] at HI ⊢
      clear hW1
      obtain ⟨A, hAe⟩ : ∃ A, A = unA N M := ⟨_, rfl⟩
      rw [← hAe] at HI HAf
      have HAe := hidb hAe
      clear hAe
      obtain ⟨na, hna⟩ : ∃ na, na = A.length := ⟨_, rfl⟩
      have Hna := hidb hna
      have hna4 : na ≤ 1024 := by rw [hna]; exact HAf.out.2
      clear hna
      go_loopw [9, 10] (fun ov iv wr => ∃ (i : Nat) (o : Value), iv = .int .i64 i ∧ ov = o ∧ i ≤ na ∧ Hid (Below W1.heap.size W1 wr ∧ wr.ownsRow W1.heap.size 73 2 o (chgD M N (A.take i)).length (cellsP (chgD M N (A.take i))))) (fun _ iv _ => na - (intOf iv).toNat)
      case atStart => exact ⟨0, _, rfl, rfl, Nat.zero_le _, hidb ⟨Below.refl _ _, by rw [List.take_zero]; exact World.ownsRow_nil _ _ _ _⟩⟩
      case round =>
        obtain ⟨i, o, rfl, rfl, hi, HK⟩ := hrel
        have hUw := HI.out.below HK.out.1
        obtain ⟨hbw, _, va, hA, _⟩ := hUw
        have HcA := hA.c
        obtain ⟨ca, cc, rfl, _⟩ := hA.form
        rw [← Hna.out] at HcA
        obtain ⟨c0, c1⟩ := (HQ.out.below hbw).cells
        by_cases hlt : i < na
        · have hil : i < A.length := by rw [← Hna.out]; exact hlt
          obtain ⟨g, eg, hg, a0, a1⟩ := row_pairR hA.row hil
          have HS1 := hidb (chgD_snoc (M := M) (N := N) hil)
          have hlen : (chgD M N (A.take i)).length ≤ 1024 := by
            have := List.length_filter_le (fun x : Bt × Bt => difB M N x.1) (A.take i)
            unfold chgD
            rw [List.length_take] at this
            omega
          obtain ⟨oa, oc, rfl, _⟩ := row_form HK.out.2
          have eg2 : ca = some ⟨g, 0, none⟩ := eg
          subst eg2
          clear eg
          have hMl : M.length ≤ 1000000 := by have := Hm.out; omega
          have HG1 := hidb (fun m => rget_any r _ M (wr.drewN m) A[i].1 ((H1.out.below hbw).drewN m) HS.out.1 hMl)
          have HG2 := hidb (fun m => rget_any mb _ N (wr.drewN m) A[i].1 ((H2.out.below hbw).drewN m) HS.out.2 (by omega))
          have hdv := difB_vals M N A[i].1
          generalize A[i] = x at *
          obtain ⟨xk, xv⟩ := x
          simp only at a0 a1 HG1 HG2 HS1 hdv
          generalize (getL M xk).getD [] = g1 at *
          generalize (getL N xk).getD [] = g2 at *
          generalize (getL M xk).isSome = b1 at *
          generalize (getL N xk).isSome = b2 at *
          rw [hdv] at HS1
          have hj0 : (0 : Int) ≤ (i : Int) := by omega
          have hj1 : (i : Int) < (na : Int) := by omega
          generalize chgD M N (A.take i) = acc at *
          obtain ⟨nb, hnb⟩ : ∃ nb, nb = acc.length := ⟨_, rfl⟩
          have hnb5 : nb ≤ 1024 := by omega
          rw [← hnb] at HK ⊢
          have Hnb := hidb hnb
          have HY : Hid (∀ m wy, (∃ m', wy = (wr.drewN m).drewN m') → (wy.cell? ⟨qb, 1, none⟩ = some (.pointer (some ⟨mb, 0, none⟩)) ∧ wy.cell? ⟨ab, 0, none⟩ = some (.slice (some ⟨g, 0, none⟩) na cc) ∧ wy.cell? ⟨g, i * 2, none⟩ = some (sv xk) ∧ wy.cell? ⟨g, i * 2 + 1, none⟩ = some (sv xv)) ∧ Hid (Below W1.heap.size W1 wy ∧ wy.ownsRow W1.heap.size 73 2 (.slice oa nb oc) nb (cellsP acc))) := hidb fun m wy ⟨m', e⟩ => by
            subst e
            exact ⟨⟨c1, HcA, a0, a1⟩, hidb ⟨below_drewN (below_drewN HK.out.1 m) m', row_below2 (row_below2 HK.out.2 (below_drewN (Below.refl _ _) m)) (below_drewN (Below.refl _ _) m')⟩⟩
          clear HK hA hil hdv hlen hbw hnb
          go_wp2_with fail
          go_region_held3 (fun X => X.cell? ⟨qb, 0, none⟩ = some (.pointer (some ⟨r, 0, none⟩)) ∧ X.cell? ⟨ab, 0, none⟩ = some (.slice (some ⟨g, 0, none⟩) na cc) ∧ X.cell? ⟨g, i * 2, none⟩ = some (sv xk)) (first | go_keep | exact ⟨c0, HcA, a0⟩) (first
            | (go_at_call 14; refine (HG1.out _).mono ?_; clear HG1; rintro e w2 ⟨rfl, m2, rfl⟩))
          go_wp2_with fail
          go_region_held3 (fun X => X.cell? ⟨qb, 1, none⟩ = some (.pointer (some ⟨mb, 0, none⟩)) ∧ X.cell? ⟨ab, 0, none⟩ = some (.slice (some ⟨g, 0, none⟩) na cc) ∧ X.cell? ⟨g, i * 2, none⟩ = some (sv xk)) (first | exact ⟨y0, y1, y2⟩ | go_keep | exact ⟨c1, HcA, a0⟩) (first
            | (go_at_call 14; refine (HG2.out _).mono ?_; clear HG2; rintro e wy ⟨rfl, E2⟩; obtain ⟨⟨y0, y1, y2, y3⟩, KY⟩ := HY.out _ _ E2; clear HY E2))
          have HZ : Hid (∀ o, W1.heap.size ≤ (wy.alloc o).heap.size) := hidb fun o => by have := KY.out.1.size; simp; omega
          have HE : Hid (∀ v' w6, w6.ownsRow W1.heap.size 73 2 v' (nb + 1) (cellsP acc ++ [sv xk, sv xv]) → Step (wy.alloc (.cells #[sv xk, sv xv] 73)) (.slice oa nb oc) w6 v' → Hid (Below W1.heap.size W1 w6 ∧ w6.ownsRow W1.heap.size 73 2 v' (acc ++ [(xk, xv)]).length (cellsP (acc ++ [(xk, xv)])))) := hidb fun v' w6 ho hs => hidb (by
            rw [List.length_append, List.length_singleton, ← Hnb.out, cellsP_app]
            refine ⟨?_, ho⟩
            have hbs := KY.out.1.size
            refine (KY.out.1.alloc hbs _).trans (hs.below (by simp; omega) fun q hq => ?_)
            exact (row_cells KY.out.2 q hq).1)
          have hcase : ((g1 == g2) = false ∨ g1 = g2 ∧ (b1 = true ∧ b2 = false ∨ b1 = false ∧ b2 = true)) ∧ (!(g1 == g2) || !(b1 == b2)) = true ∨ (g1 = g2 ∧ b1 = b2) ∧ (!(g1 == g2) || !(b1 == b2)) = false := by
            by_cases e : g1 = g2
            · subst e
              cases b1 <;> cases b2 <;> simp
            · simp [e]
          rcases hcase with ⟨hc, hd⟩ | ⟨⟨rfl, rfl⟩, hd⟩
          · rw [hd] at HS1
            simp only [if_true] at HS1
            clear hd
            rcases hc with e1 | ⟨rfl, ⟨rfl, rfl⟩ | ⟨rfl, rfl⟩⟩
            all_goals
              go_wp2_with (first
                | (at_builtin; refine wpList_appN _ rfl _ _ 49 rfl elemN_pairR W1.heap.size _ nb (cellsP acc) rfl (World.ownsRow.alloc KY.out.2 _) _ rfl 1 [sv xk, sv xv] (.inr ⟨⟨wy.heap.size, 0, none⟩, 1, rfl, cells_newb wy [sv xk, sv xv] _ _ rfl⟩) rfl (fun u hu => cellsP_one [(xk, xv)] u hu) (by unfold maxLen; omega) (by omega) (HZ.out _) ?_; intro v' w6 ho hs; have K6 := HE.out _ _ ho hs)
                | fail)
              exact ⟨⟨i + 1, _, by go_num, rfl, by omega, by rw [HS1.out]; exact K6⟩, by simp [intOf]; omega⟩
          · rw [hd] at HS1
            simp only [Bool.false_eq_true, if_false] at HS1
            clear hd HE HZ
            have K6 : Hid (Below W1.heap.size W1 wy ∧ wy.ownsRow W1.heap.size 73 2 (.slice oa nb oc) acc.length (cellsP acc)) := hidb (by rw [← Hnb.out]; exact KY.out)
            go_wp2_with fail
            exact ⟨⟨i + 1, _, by go_num, rfl, by omega, by rw [HS1.out]; exact K6⟩, by simp [intOf]; omega⟩
        · have et : A.take i = A := List.take_of_length_le (by rw [← Hna.out]; omega)
          rw [et] at HK
          clear et
          obtain ⟨oa, oc, rfl, _⟩ := row_form HK.out.2
          go_wp2_with fail
          go_ret
          refine ⟨_, rfl, ?_, ?_⟩
          · rw [← HAe.out]
            exact row_lower HK.out.2 HI.out.1.size
          · exact HI.out.1.trans (HK.out.1.mono HI.out.1.size)
end Go.Proofs.Ytcjakgogdbfagaa
