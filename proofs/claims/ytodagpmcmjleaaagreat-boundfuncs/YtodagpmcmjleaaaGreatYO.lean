/- Layer 9: the document's Cut, closed, fine. -/
import Derived.Test.YtodagpmcmjleaaaGreatYN
import Derived.Test.YtodagpmcmjleaaaGreatYF
namespace Go.Proofs.YtodagpmcmjleaaaGreat
open Go.RowKit
set_option maxHeartbeats 1000000 in
theorem rcut_any (z : Int) (n : Nat) (hz : z = n) (w : World) : Calls Tryz.prog 30 #[.int .i64 z] w fun e w' => e = .returned (.int .i64 (cut n : Nat)) ∧ w' = w := by
  subst hz
  have h : cut n = n ∧ n ≤ 1048577 ∨ cut n = 1048577 ∧ 1048577 < n := by unfold cut TM; omega
  rcases h with ⟨h1, h2⟩ | ⟨h1, h2⟩
  · rw [h1]
    go_enter Tryz.func30, Tryz.ntmps30
    go_wp2
    all_goals (go_ret; exact ⟨rfl, rfl⟩)
  · rw [h1]
    go_enter Tryz.func30, Tryz.ntmps30
    go_wp2
    all_goals (go_ret; exact ⟨rfl, rfl⟩)
/-- A level in its box. -/
def BoxL (W : World) (g : Nat) (b : DL) : Prop := W.cell? ⟨g, 0, none⟩ = some (.int .i64 b.op) ∧ W.cell? ⟨g, 1, none⟩ = some (.int .i64 b.t) ∧ W.cell? ⟨g, 2, none⟩ = some (.int .i64 b.s) ∧ W.cell? ⟨g, 3, none⟩ = some (.int .i64 b.th) ∧ W.cell? ⟨g, 4, none⟩ = some (.bool b.o)
theorem BoxL.keep {W W' : World} {g : Nat} {b : DL} (h : BoxL W g b) (hb : Below W.heap.size W W') : BoxL W' g b := ⟨below_keep hb _ _ h.1, below_keep hb _ _ h.2.1, below_keep hb _ _ h.2.2.1, below_keep hb _ _ h.2.2.2.1, below_keep hb _ _ h.2.2.2.2⟩
set_option maxRecDepth 100000 in
set_option maxHeartbeats 2000000 in
theorem rclosed_any (b : DL) (hs : b.s ≤ TM) (hth : b.th ≤ TM) (ht : b.op = 51 → 0 ≤ b.t) (w : World) :
    Calls Tryz.prog 31 #[.agg #[.int .i64 b.op, .int .i64 b.t, .int .i64 b.s, .int .i64 b.th, .bool b.o]] w fun e w' => e = .returned (.int .i64 (dclosed b : Nat)) ∧ Below w.heap.size w w' := by
  obtain ⟨w0, hw0⟩ : ∃ w0, w0 = w.alloc (.cells #[.int .i64 b.op, .int .i64 b.t, .int .i64 b.s, .int .i64 b.th, .bool b.o] 64) := ⟨_, rfl⟩
  have b0 : Below w.heap.size w w0 := by rw [hw0]; exact (Below.refl _ w).alloc (Nat.le_refl _) _
  have hx0 : BoxL w0 w.heap.size b := by
    have := heap_alloc_new w (.cells #[.int .i64 b.op, .int .i64 b.t, .int .i64 b.s, .int .i64 b.th, .bool b.o] 64)
    rw [hw0]
    exact ⟨Lib.cell_of_heap this 0, Lib.cell_of_heap this 1, Lib.cell_of_heap this 2, Lib.cell_of_heap this 3, Lib.cell_of_heap this 4⟩
  obtain ⟨op, t, s, th, o⟩ := b
  simp only at hs hth ht hx0 hw0 ⊢
  have c50 : costT 50 = 1 := by decide
  have HC0 : Hid (Calls Tryz.prog 29 #[.int .i64 50] (w.alloc (.cells #[.int .i64 op, .int .i64 t, .int .i64 s, .int .i64 th, .bool o] 64)) fun e W1 => e = .returned (.int .i64 1) ∧ BoxL W1 w.heap.size ⟨op, t, s, th, o⟩ ∧ Hid (Below w.heap.size w W1)) := hid9 (by
    rw [← hw0]
    refine (rcost9_any 50 w0).mono fun e W1 ⟨h1, h2⟩ => ?_
    rw [c50] at h1
    exact ⟨h1, hx0.keep h2, hid9 (b0.trans (h2.mono b0.size))⟩)
  obtain ⟨kO, hkO⟩ : ∃ kO, kO = costN op := ⟨_, rfl⟩
  have HC1 : Hid (∀ n W, n = op → BoxL W w.heap.size ⟨op, t, s, th, o⟩ → Below w.heap.size w W → Calls Tryz.prog 29 #[.int .i64 n] W.drew fun e W1 => e = .returned (.int .i64 (kO : Nat)) ∧ Hid (BoxL W1 w.heap.size ⟨op, t, s, th, o⟩ ∧ Below w.heap.size w W1)) := hid9 fun n W hno hb hB => (rcost9_any n W.drew).mono fun e W1 ⟨h1, h2⟩ => by
    rw [(costT_pos n).1, hno, ← hkO] at h1
    have h3 : Below W.heap.size W W1 := (Below.refl _ W).drew.trans h2
    exact ⟨h1, hid9 ⟨hb.keep h3, hB.trans (h3.mono hB.size)⟩⟩
  have HC2 : Hid (∀ n W, n = op → BoxL W w.heap.size ⟨op, t, s, th, o⟩ → Below w.heap.size w W → Calls Tryz.prog 29 #[.int .i64 n] W fun e W1 => e = .returned (.int .i64 (kO : Nat)) ∧ Hid (BoxL W1 w.heap.size ⟨op, t, s, th, o⟩ ∧ Below w.heap.size w W1)) := hid9 fun n W hno hb hB => (rcost9_any n W).mono fun e W1 ⟨h1, h2⟩ => by
    rw [(costT_pos n).1, hno, ← hkO] at h1
    exact ⟨h1, hid9 ⟨hb.keep h2, hB.trans (h2.mono hB.size)⟩⟩
  have hK := (costT_pos op).2
  rw [← hkO] at hK
  have eIn : cut (s + 1) = cut (s + costN 50) := by rw [show costN 50 = 1 from by decide]
  have hq := cut_le (s + costN 50)
  clear hw0 b0 hx0 c50
  unfold TM at hs hth hq
  have HD : Hid (dclosed ⟨op, t, s, th, o⟩ = if op = 51 then cut (kO + cut (min t.toNat TM * cut (s + costN 50))) else if o = true then cut (kO + max th (cut (s + costN 50))) else cut (kO + cut (s + costN 50))) := hid9 (by
    subst hkO
    unfold dclosed
    by_cases h : op = 51
    · subst h; rfl
    · rw [if_neg h, if_neg h])
  clear hkO
  generalize hqe : cut (s + costN 50) = q at *
  clear hqe
  generalize dclosed ⟨op, t, s, th, o⟩ = R at *
  by_cases h51 : op = 51
  · subst h51
    have ht0 : 0 ≤ t := ht rfl
    obtain ⟨T, rfl⟩ : ∃ T : Nat, t = T := ⟨t.toNat, by omega⟩
    have HD2 : Hid (R = cut (kO + cut (min T TM * q))) := hid9 (by have := HD.out; rw [if_pos rfl] at this; simpa using this)
    clear HD
    obtain ⟨U, hU, hUl, hUe⟩ : ∃ U : Nat, (U = T ∧ T ≤ 1048577 ∨ U = 1048577 ∧ 1048577 < T) ∧ U ≤ 1048577 ∧ min T TM = U := by
      rcases Nat.lt_or_ge 1048577 T with h | h
      · exact ⟨1048577, .inr ⟨rfl, h⟩, Nat.le_refl _, by unfold TM; omega⟩
      · exact ⟨T, .inl ⟨rfl, h⟩, h, by unfold TM; omega⟩
    rw [hUe] at HD2
    clear hUe
    have hP : U * q ≤ 1048577 * 1048577 := Nat.mul_le_mul hUl hq
    have hPe : ((U * q : Nat) : Int) = (U : Int) * (q : Int) := Int.natCast_mul _ _
    have hW : IntKind.i64.wrap ((U : Int) * (q : Int)) = ((U * q : Nat) : Int) := by rw [← hPe, IntKind.wrap_i64]; omega
    have hc := cut_le (U * q)
    unfold TM at hc
    have hA : IntKind.i64.wrap ((kO : Int) + ((cut (U * q) : Nat) : Int)) = ((kO + cut (U * q) : Nat) : Int) := by rw [IntKind.wrap_i64]; omega
    have C1 : Hid (∀ z W, z = ((U * q : Nat) : Int) → Calls Tryz.prog 30 #[.int .i64 z] W fun e w' => e = .returned (.int .i64 (cut (U * q) : Nat)) ∧ w' = W) := hid9 fun z W hz => rcut_any z (U * q) hz W
    have C2 : Hid (∀ z W, z = ((kO + cut (U * q) : Nat) : Int) → Calls Tryz.prog 30 #[.int .i64 z] W fun e w' => e = .returned (.int .i64 (cut (kO + cut (U * q)) : Nat)) ∧ w' = W) := hid9 fun z W hz => rcut_any z (kO + cut (U * q)) hz W
    rcases hU with ⟨hU, hT⟩ | ⟨hU, hT⟩
    · subst hU
      generalize U * q = P at *
      go_enter Tryz.func31, Tryz.ntmps31
      go_wp2_with (first
        | (go_at_call 29; refine HC0.out.mono ?_; clear HC0; rintro e w1 ⟨rfl, HX, HB⟩; have HU := hid9 (HC1.out _ w1 rfl HX HB.out); clear HC1; obtain ⟨x0, x1, x2, x3, x4⟩ := HX)
        | (go_at_call 30; refine (rcut_any _ (s + 1) (by omega) _).mono ?_; rintro e w9 ⟨rfl, w9e⟩; rw [w9e, eIn]; clear w9e)
        | fail)
      go_region_held3 (fun W => W.cell? ⟨w.heap.size, 0, none⟩ = some (.int .i64 51) ∧ W.cell? ⟨w.heap.size, 1, none⟩ = some (.int .i64 (U : Int))) (first | exact ⟨x0, x1⟩ | exact ⟨HV.out.1.1, HV.out.1.2.1⟩ | go_keep) (first
        | (go_at_call 29; refine HU.out.mono ?_; clear HU; rintro e w2 ⟨rfl, HV⟩)
        | (go_at_call 30; first | (refine (C1.out _ _ (by first | exact hW | exact hPe.symm | (rw [if_neg (by omega)]; exact hW) | (rw [if_pos (by omega)]; exact hW) | (rw [if_neg (by omega)]; exact hPe.symm) | (rw [if_pos (by omega)]; exact hPe.symm))).mono ?_; clear C1; rintro e w9 ⟨rfl, w9e⟩; rw [w9e]; clear w9e) | (refine (C2.out _ _ (by first | exact hA | omega | (rw [if_neg (by omega)]; exact hA) | (rw [if_pos (by omega)]; exact hA))).mono ?_; clear C2; rintro e w9 ⟨rfl, w9e⟩; rw [w9e]; clear w9e)))
      all_goals
        go_wp2_with fail
        go_ret
        exact ⟨by rw [HD2.out]; rfl, HV.out.2⟩
    · subst hU
      generalize 1048577 * q = P at *
      go_enter Tryz.func31, Tryz.ntmps31
      go_wp2_with (first
        | (go_at_call 29; refine HC0.out.mono ?_; clear HC0; rintro e w1 ⟨rfl, HX, HB⟩; have HU := hid9 (HC1.out _ w1 rfl HX HB.out); clear HC1; obtain ⟨x0, x1, x2, x3, x4⟩ := HX)
        | (go_at_call 30; refine (rcut_any _ (s + 1) (by omega) _).mono ?_; rintro e w9 ⟨rfl, w9e⟩; rw [w9e, eIn]; clear w9e)
        | fail)
      go_region_held3 (fun W => W.cell? ⟨w.heap.size, 0, none⟩ = some (.int .i64 51) ∧ W.cell? ⟨w.heap.size, 1, none⟩ = some (.int .i64 (T : Int))) (first | exact ⟨x0, x1⟩ | exact ⟨HV.out.1.1, HV.out.1.2.1⟩ | go_keep) (first
        | (go_at_call 29; refine HU.out.mono ?_; clear HU; rintro e w2 ⟨rfl, HV⟩)
        | (go_at_call 30; first | (refine (C1.out _ _ (by first | exact hW | exact hPe.symm | (rw [if_neg (by omega)]; exact hW) | (rw [if_pos (by omega)]; exact hW) | (rw [if_neg (by omega)]; exact hPe.symm) | (rw [if_pos (by omega)]; exact hPe.symm))).mono ?_; clear C1; rintro e w9 ⟨rfl, w9e⟩; rw [w9e]; clear w9e) | (refine (C2.out _ _ (by first | exact hA | omega | (rw [if_neg (by omega)]; exact hA) | (rw [if_pos (by omega)]; exact hA))).mono ?_; clear C2; rintro e w9 ⟨rfl, w9e⟩; rw [w9e]; clear w9e)))
      all_goals
        go_wp2_with fail
        go_ret
        exact ⟨by rw [HD2.out]; rfl, HV.out.2⟩
  · have h51b : (op == 51) = false := by simpa using h51
    have HD2 : Hid (R = if o = true then cut (kO + max th q) else cut (kO + q)) := hid9 (by have := HD.out; rw [if_neg h51] at this; exact this)
    clear HD
    cases o with
    | true =>
      have HD3 : Hid (R = cut (kO + max th q)) := hid9 (by have := HD2.out; rw [if_pos rfl] at this; exact this)
      clear HD2
      have HD2 := HD3
      obtain ⟨U, hU, hUl⟩ : ∃ U, U = max th q ∧ U ≤ 1048577 := ⟨_, rfl, by omega⟩
      rw [← hU] at HD2
      have hA : IntKind.i64.wrap ((kO : Int) + (U : Int)) = ((kO + U : Nat) : Int) := by rw [IntKind.wrap_i64]; omega
      have C2 : Hid (∀ z W, z = ((kO + U : Nat) : Int) → Calls Tryz.prog 30 #[.int .i64 z] W fun e w' => e = .returned (.int .i64 (cut (kO + U) : Nat)) ∧ w' = W) := hid9 fun z W hz => rcut_any z (kO + U) hz W
      clear HD3
      rcases Nat.lt_or_ge th q with hlt | hge
      · have e : U = q := by omega
        clear hU
        subst e
        go_enter Tryz.func31, Tryz.ntmps31
        go_wp2_with (first
          | (go_at_call 29; refine HC0.out.mono ?_; clear HC0; rintro e w1 ⟨rfl, HX, HB⟩; have HU := hid9 (HC1.out _ w1 rfl HX HB.out); clear HC1; obtain ⟨x0, x1, x2, x3, x4⟩ := HX)
          | (go_at_call 30; refine (rcut_any _ (s + 1) (by omega) _).mono ?_; rintro e w9 ⟨rfl, w9e⟩; rw [w9e, eIn]; clear w9e)
          | fail)
        go_region_held3 (fun W => W.cell? ⟨w.heap.size, 0, none⟩ = some (.int .i64 op) ∧ W.cell? ⟨w.heap.size, 3, none⟩ = some (.int .i64 (th : Int))) (first | exact ⟨x0, x3⟩ | exact ⟨HV.out.1.1, HV.out.1.2.2.2.1⟩ | go_keep) (first
          | (go_at_call 29; refine HU.out.mono ?_; clear HU; rintro e w2 ⟨rfl, HV⟩)
          | (go_at_call 30; first | (refine (C2.out _ _ (by first | exact hA | omega | (rw [if_neg (by omega)]; exact hA) | (rw [if_pos (by omega)]; exact hA))).mono ?_; clear C2; rintro e w9 ⟨rfl, w9e⟩; rw [w9e]; clear w9e)))
        all_goals
          go_wp2_with fail
          go_ret
          exact ⟨by rw [HD2.out]; rfl, HV.out.2⟩
      · have e : U = th := by omega
        clear hU
        subst e
        go_enter Tryz.func31, Tryz.ntmps31
        go_wp2_with (first
          | (go_at_call 29; refine HC0.out.mono ?_; clear HC0; rintro e w1 ⟨rfl, HX, HB⟩; have HU := hid9 (HC1.out _ w1 rfl HX HB.out); clear HC1; obtain ⟨x0, x1, x2, x3, x4⟩ := HX)
          | (go_at_call 30; refine (rcut_any _ (s + 1) (by omega) _).mono ?_; rintro e w9 ⟨rfl, w9e⟩; rw [w9e, eIn]; clear w9e)
          | fail)
        go_region_held3 (fun W => W.cell? ⟨w.heap.size, 0, none⟩ = some (.int .i64 op) ∧ W.cell? ⟨w.heap.size, 3, none⟩ = some (.int .i64 (U : Int))) (first | exact ⟨x0, x3⟩ | exact ⟨HV.out.1.1, HV.out.1.2.2.2.1⟩ | go_keep) (first
          | (go_at_call 29; refine HU.out.mono ?_; clear HU; rintro e w2 ⟨rfl, HV⟩)
          | (go_at_call 30; first | (refine (C2.out _ _ (by first | exact hA | omega | (rw [if_neg (by omega)]; exact hA) | (rw [if_pos (by omega)]; exact hA))).mono ?_; clear C2; rintro e w9 ⟨rfl, w9e⟩; rw [w9e]; clear w9e)))
        all_goals
          go_wp2_with fail
          go_ret
          exact ⟨by rw [HD2.out]; rfl, HV.out.2⟩
    | false =>
      have HD3 : Hid (R = cut (kO + q)) := hid9 (by have := HD2.out; simpa using this)
      clear HD2
      have HD2 := HD3
      clear HD3
      have hA : IntKind.i64.wrap ((kO : Int) + (q : Int)) = ((kO + q : Nat) : Int) := by rw [IntKind.wrap_i64]; omega
      have C0 : Hid (∀ z W, z = ((s + 1 : Nat) : Int) → Calls Tryz.prog 30 #[.int .i64 z] W fun e w' => e = .returned (.int .i64 (cut (s + 1) : Nat)) ∧ w' = W) := hid9 fun z W hz => rcut_any z (s + 1) hz W
      have C2 : Hid (∀ z W, z = ((kO + q : Nat) : Int) → Calls Tryz.prog 30 #[.int .i64 z] W fun e w' => e = .returned (.int .i64 (cut (kO + q) : Nat)) ∧ w' = W) := hid9 fun z W hz => rcut_any z (kO + q) hz W
      go_enter Tryz.func31, Tryz.ntmps31
      go_wp2_with (first
        | (go_at_call 29; first | (refine HC0.out.mono ?_; clear HC0; rintro e w1 ⟨rfl, HX, HB⟩; have HU := hid9 (HC2.out _ w1 rfl HX HB.out); clear HC2; obtain ⟨x0, x1, x2, x3, x4⟩ := HX) | (refine HU.out.mono ?_; clear HU; rintro e w2 ⟨rfl, HV⟩))
        | (go_at_call 30; first | (refine (C0.out _ _ (by omega)).mono ?_; clear C0; rintro e w9 ⟨rfl, w9e⟩; rw [w9e, eIn]; clear w9e) | (refine (C2.out _ _ (by first | exact hA | omega | (rw [if_neg (by omega)]; exact hA) | (rw [if_pos (by omega)]; exact hA))).mono ?_; clear C2; rintro e w9 ⟨rfl, w9e⟩; rw [w9e]; clear w9e))
        | fail)
      go_ret
      exact ⟨by rw [HD2.out]; rfl, HV.out.2⟩
set_option maxRecDepth 100000 in
set_option maxHeartbeats 1000000 in
theorem rfine_any (cs : List (Int × Int)) (cal : List Int) (ca la : Option Addr) (cc lc n l : Nat) (hn : cs.length = n) (hl : cal.length = l) (bn : n ≤ 9000000000000) (bl : l ≤ 1000000000000000) (w : World) (hi : IsAt w.cell? ca cs) (hz : NsAt w.cell? la cal) :
    Calls Tryz.prog 28 #[.slice ca n cc, .slice la l lc] w fun e w' => e = .returned (.bool (rightB cs cal)) ∧ w' = w := by
  have HI := hid9 hi
  have HZ := hid9 hz
  have HN := hid9 hn
  have HLn := hid9 hl
  clear hi hz hn hl
  go_enter Tryz.func28, Tryz.ntmps28
  go_wp2_with fail
  go_loopw [5] (fun iv wr => ∃ i : Nat, iv = .int .i64 i ∧ i ≤ l ∧ Hid ((cal.take i).any below9 = false) ∧ w = wr) (fun iv _ => l - (intOf iv).toNat)
  case atStart => exact ⟨0, rfl, Nat.zero_le _, hid9 (by simp), rfl⟩
  case round =>
    obtain ⟨i, rfl, hil, HA, rfl⟩ := hrel
    by_cases hlt : i < l
    · have hl2 : i < cal.length := by rw [HLn.out]; exact hlt
      obtain ⟨zb, zo, e1, z1⟩ : ∃ zb zo, la = some ⟨zb, zo, none⟩ ∧ w.cell? ⟨zb, zo + i, none⟩ = some (.int .i64 cal[i]) := by
        rcases HZ.out with h | ⟨b, o, e, h⟩
        · rw [h] at hl2; cases hl2
        · exact ⟨b, o, e, h i hl2⟩
      subst e1
      by_cases hneg : cal[i] < 0
      · have HF : Hid (rightB cs cal = false) := hid9 (by
          unfold rightB
          have : cal.any below9 = true := List.any_eq_true.2 ⟨cal[i], List.getElem_mem hl2, by unfold below9; exact decide_eq_true hneg⟩
          rw [this]; simp)
        generalize cal[i] = x at *
        go_wp2_with fail
        go_ret
        exact ⟨by rw [HF.out]; rfl, rfl⟩
      · have HA2 : Hid ((cal.take (i + 1)).any below9 = false) := hid9 (by
          rw [List.take_succ_eq_append_getElem hl2, List.any_append, HA.out]
          simp [below9]; omega)
        generalize cal[i] = x at *
        go_wp2_with fail
        exact ⟨⟨i + 1, by go_num, by omega, HA2, by first | trivial | rfl⟩, by simp [intOf]; omega⟩
    · have e : i = l := by omega
      subst e
      have HA2 : Hid (cal.any below9 = false) := hid9 (by have := HA.out; rw [← HLn.out, List.take_length] at this; exact this)
      clear HA
      go_wp2_with fail
      go_loopw [6] (fun iv wr => ∃ k : Nat, iv = .int .i64 k ∧ k ≤ n ∧ Hid ((cs.take k).any (wrong9 cal.length) = false) ∧ w = wr) (fun iv _ => n - (intOf iv).toNat)
      case atStart => exact ⟨0, rfl, Nat.zero_le _, hid9 (by simp), rfl⟩
      case round =>
        obtain ⟨k, rfl, hkn, HB, rfl⟩ := hrel
        by_cases hlt2 : k < n
        · have hk2 : k < cs.length := by rw [HN.out]; exact hlt2
          obtain ⟨cb, co, e1, q0, q1⟩ : ∃ cb co, ca = some ⟨cb, co, none⟩ ∧ w.cell? ⟨cb, co + k * 2, none⟩ = some (.int .i64 cs[k].1) ∧ w.cell? ⟨cb, co + k * 2 + 1, none⟩ = some (.int .i64 cs[k].2) := by
            rcases HI.out with h | ⟨b, o, e, h⟩
            · rw [h] at hk2; cases hk2
            · exact ⟨b, o, e, h k hk2⟩
          subst e1
          have HW : Hid (wrong9 cal.length cs[k] = true → rightB cs cal = false) := hid9 fun h => by
            unfold rightB
            have : cs.any (wrong9 cal.length) = true := List.any_eq_true.2 ⟨cs[k], List.getElem_mem hk2, h⟩
            rw [this]; simp
          have HV : Hid (wrong9 cal.length cs[k] = false → (cs.take (k + 1)).any (wrong9 cal.length) = false) := hid9 fun h => by
            rw [List.take_succ_eq_append_getElem hk2, List.any_append, HB.out]
            simp [h]
          have HE : Hid (wrong9 cal.length cs[k] = (if cs[k].1 = 53 then decide (cs[k].2 < 0 ∨ (i : Int) ≤ cs[k].2) else if cs[k].1 = 51 then decide (cs[k].2 < 0) else false)) := hid9 (by rw [wrong9, HLn.out])
          generalize wrong9 cal.length cs[k] = wr9 at *
          generalize cs[k].1 = o at *
          generalize cs[k].2 = a at *
          clear HB HA2 HI HZ
          by_cases o1 : o = 53
          · subst o1
            have E2 : Hid (wr9 = decide (a < 0 ∨ (i : Int) ≤ a)) := hid9 (by have := HE.out; simpa using this)
            clear HE
            by_cases a1 : a < 0 ∨ (i : Int) ≤ a
            · have E3 : Hid (rightB cs cal = false) := hid9 (HW.out (by rw [E2.out]; exact decide_eq_true a1))
              rcases Int.lt_or_le a 0 with a2 | a2
              · go_wp2_with fail
                go_ret
                exact ⟨by rw [E3.out]; rfl, rfl⟩
              · have a3 : (i : Int) ≤ a := by omega
                go_wp2_with fail
                go_ret
                exact ⟨by rw [E3.out]; rfl, rfl⟩
            · have E3 := hid9 (HV.out (by rw [E2.out]; exact decide_eq_false a1))
              have a2 : 0 ≤ a := by omega
              have a3 : a < (i : Int) := by omega
              go_wp2_with fail
              exact ⟨⟨k + 1, by go_num, by omega, E3, by first | trivial | rfl⟩, by simp [intOf]; omega⟩
          have o1b : (o == 53) = false := by simpa using o1
          by_cases o2 : o = 51
          · subst o2
            have E2 : Hid (wr9 = decide (a < 0)) := hid9 (by have := HE.out; simpa using this)
            clear HE
            by_cases a1 : a < 0
            · have E3 : Hid (rightB cs cal = false) := hid9 (HW.out (by rw [E2.out]; exact decide_eq_true a1))
              go_wp2_with fail
              go_ret
              exact ⟨by rw [E3.out]; rfl, rfl⟩
            · have E3 := hid9 (HV.out (by rw [E2.out]; exact decide_eq_false a1))
              have a2 : 0 ≤ a := by omega
              go_wp2_with fail
              exact ⟨⟨k + 1, by go_num, by omega, E3, by first | trivial | rfl⟩, by simp [intOf]; omega⟩
          · have o2b : (o == 51) = false := by simpa using o2
            have E3 := hid9 (HV.out (by rw [HE.out, if_neg o1, if_neg o2]))
            clear HE
            go_wp2_with fail
            exact ⟨⟨k + 1, by go_num, by omega, E3, by first | trivial | rfl⟩, by simp [intOf]; omega⟩
        · have HF : Hid (rightB cs cal = true) := hid9 (by
            have h1 := HB.out
            rw [show k = n by omega, ← HN.out, List.take_length] at h1
            unfold rightB
            rw [h1, HA2.out]; rfl)
          go_wp2_with fail
          go_ret
          exact ⟨by rw [HF.out]; rfl, rfl⟩
end Go.Proofs.YtodagpmcmjleaaaGreat
