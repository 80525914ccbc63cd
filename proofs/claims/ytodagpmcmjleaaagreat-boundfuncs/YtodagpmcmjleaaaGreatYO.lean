/- Layer 9: the document's Cut, closed, fine. Where instructions of good shape lead: plain facts. -/
import Derived.Test.YtodagpmcmjleaaaGreatXU
import Derived.Test.YtodagpmcmjleaaaGreatYF
import Derived.Test.YtodagpmcmjleaaaGreatSH
namespace Go.Proofs.YtodagpmcmjleaaaGreat
open Go.RowKit
set_option maxHeartbeats 1000000 in
theorem rcut_any (z : Int) (n : Nat) (hz : z = n) (w : World) : Calls Tryz.prog 30 #[.int .i64 z] w fun e w' => e = .returned (.int .i64 (cut n : Nat)) ∧ w' = w := by
  subst hz
  have h : cut n = n ∧ n ≤ 1048577 ∨ cut n = 1048577 ∧ 1048577 < n := by unfold cut TM; omega
  rcases h with ⟨h1, h2⟩ | ⟨h1, h2⟩
  · rw [h1]
    go_enter Tryz.func30, Tryz.ntmps30
    go_wp2
    all_goals (go_ret; exact ⟨rfl, rfl⟩)
  · rw [h1]
    go_enter Tryz.func30, Tryz.ntmps30
    go_wp2
    all_goals (go_ret; exact ⟨rfl, rfl⟩)
/-- A level in its box. -/
def BoxL (W : World) (g : Nat) (b : DL) : Prop := W.cell? ⟨g, 0, none⟩ = some (.int .i64 b.op) ∧ W.cell? ⟨g, 1, none⟩ = some (.int .i64 b.t) ∧ W.cell? ⟨g, 2, none⟩ = some (.int .i64 b.s) ∧ W.cell? ⟨g, 3, none⟩ = some (.int .i64 b.th) ∧ W.cell? ⟨g, 4, none⟩ = some (.bool b.o)
theorem BoxL.keep {W W' : World} {g : Nat} {b : DL} (h : BoxL W g b) (hb : Below W.heap.size W W') : BoxL W' g b := ⟨below_keep hb _ _ h.1, below_keep hb _ _ h.2.1, below_keep hb _ _ h.2.2.1, below_keep hb _ _ h.2.2.2.1, below_keep hb _ _ h.2.2.2.2⟩
set_option maxRecDepth 100000 in
set_option maxHeartbeats 2000000 in
theorem rclosed_any (b : DL) (hs : b.s ≤ TM) (hth : b.th ≤ TM) (ht : b.op = 51 → 0 ≤ b.t) (w : World) :
    Calls Tryz.prog 31 #[.agg #[.int .i64 b.op, .int .i64 b.t, .int .i64 b.s, .int .i64 b.th, .bool b.o]] w fun e w' => e = .returned (.int .i64 (dclosed b : Nat)) ∧ Below w.heap.size w w' := by
  obtain ⟨w0, hw0⟩ : ∃ w0, w0 = w.alloc (.cells #[.int .i64 b.op, .int .i64 b.t, .int .i64 b.s, .int .i64 b.th, .bool b.o] 64) := ⟨_, rfl⟩
  have b0 : Below w.heap.size w w0 := by rw [hw0]; exact (Below.refl _ w).alloc (Nat.le_refl _) _
  have hx0 : BoxL w0 w.heap.size b := by
    have := heap_alloc_new w (.cells #[.int .i64 b.op, .int .i64 b.t, .int .i64 b.s, .int .i64 b.th, .bool b.o] 64)
    rw [hw0]
    exact ⟨Lib.cell_of_heap this 0, Lib.cell_of_heap this 1, Lib.cell_of_heap this 2, Lib.cell_of_heap this 3, Lib.cell_of_heap this 4⟩
  obtain ⟨op, t, s, th, o⟩ := b
  simp only at hs hth ht hx0 hw0 ⊢
  have c50 : costT 50 = 1 := by decide
  have HC0 : Hid (Calls Tryz.prog 29 #[.int .i64 50] (w.alloc (.cells #[.int .i64 op, .int .i64 t, .int .i64 s, .int .i64 th, .bool o] 64)) fun e W1 => e = .returned (.int .i64 1) ∧ BoxL W1 w.heap.size ⟨op, t, s, th, o⟩ ∧ Hid (Below w.heap.size w W1)) := hid9 (by
    rw [← hw0]
    refine (rcost9_any 50 w0).mono fun e W1 ⟨h1, h2⟩ => ?_
    rw [c50] at h1
    exact ⟨h1, hx0.keep h2, hid9 (b0.trans (h2.mono b0.size))⟩)
  obtain ⟨kO, hkO⟩ : ∃ kO, kO = costN op := ⟨_, rfl⟩
  have HC1 : Hid (∀ n W, n = op → BoxL W w.heap.size ⟨op, t, s, th, o⟩ → Below w.heap.size w W → Calls Tryz.prog 29 #[.int .i64 n] W.drew fun e W1 => e = .returned (.int .i64 (kO : Nat)) ∧ Hid (BoxL W1 w.heap.size ⟨op, t, s, th, o⟩ ∧ Below w.heap.size w W1)) := hid9 fun n W hno hb hB => (rcost9_any n W.drew).mono fun e W1 ⟨h1, h2⟩ => by
    rw [(costT_pos n).1, hno, ← hkO] at h1
    have h3 : Below W.heap.size W W1 := (Below.refl _ W).drew.trans h2
    exact ⟨h1, hid9 ⟨hb.keep h3, hB.trans (h3.mono hB.size)⟩⟩
  have HC2 : Hid (∀ n W, n = op → BoxL W w.heap.size ⟨op, t, s, th, o⟩ → Below w.heap.size w W → Calls Tryz.prog 29 #[.int .i64 n] W fun e W1 => e = .returned (.int .i64 (kO : Nat)) ∧ Hid (BoxL W1 w.heap.size ⟨op, t, s, th, o⟩ ∧ Below w.heap.size w W1)) := hid9 fun n W hno hb hB => (rcost9_any n W).mono fun e W1 ⟨h1, h2⟩ => by
    rw [(costT_pos n).1, hno, ← hkO] at h1
    exact ⟨h1, hid9 ⟨hb.keep h2, hB.trans (h2.mono hB.size)⟩⟩
  have hK := (costT_pos op).2
  rw [← hkO] at hK
  have eIn : cut (s + 1) = cut (s + costN 50) := by rw [show costN 50 = 1 from by decide]
  have hq := cut_le (s + costN 50)
  clear hw0 b0 hx0 c50
  unfold TM at hs hth hq
  have HD : Hid (dclosed ⟨op, t, s, th, o⟩ = if op = 51 then cut (kO + cut (min t.toNat TM * cut (s + costN 50))) else if o = true then cut (kO + max th (cut (s + costN 50))) else cut (kO + cut (s + costN 50))) := hid9 (by
    subst hkO
    unfold dclosed
    by_cases h : op = 51
    · subst h; rfl
    · rw [if_neg h, if_neg h])
  clear hkO
  generalize hqe : cut (s + costN 50) = q at *
  clear hqe
  generalize dclosed ⟨op, t, s, th, o⟩ = R at *
  by_cases h51 : op = 51
  · subst h51
    have ht0 : 0 ≤ t := ht rfl
    obtain ⟨T, rfl⟩ : ∃ T : Nat, t = T := ⟨t.toNat, by omega⟩
    have HD2 : Hid (R = cut (kO + cut (min T TM * q))) := hid9 (by have := HD.out; rw [if_pos rfl] at this; simpa using this)
    clear HD
    obtain ⟨U, hU, hUl, hUe⟩ : ∃ U : Nat, (U = T ∧ T ≤ 1048577 ∨ U = 1048577 ∧ 1048577 < T) ∧ U ≤ 1048577 ∧ min T TM = U := by
      rcases Nat.lt_or_ge 1048577 T with h | h
      · exact ⟨1048577, .inr ⟨rfl, h⟩, Nat.le_refl _, by unfold TM; omega⟩
      · exact ⟨T, .inl ⟨rfl, h⟩, h, by unfold TM; omega⟩
    rw [hUe] at HD2
    clear hUe
    have hP : U * q ≤ 1048577 * 1048577 := Nat.mul_le_mul hUl hq
    have hPe : ((U * q : Nat) : Int) = (U : Int) * (q : Int) := Int.natCast_mul _ _
    have hW : IntKind.i64.wrap ((U : Int) * (q : Int)) = ((U * q : Nat) : Int) := by rw [← hPe, IntKind.wrap_i64]; omega
    have hc := cut_le (U * q)
    unfold TM at hc
    have hA : IntKind.i64.wrap ((kO : Int) + ((cut (U * q) : Nat) : Int)) = ((kO + cut (U * q) : Nat) : Int) := by rw [IntKind.wrap_i64]; omega
    have C1 : Hid (∀ z W, z = ((U * q : Nat) : Int) → Calls Tryz.prog 30 #[.int .i64 z] W fun e w' => e = .returned (.int .i64 (cut (U * q) : Nat)) ∧ w' = W) := hid9 fun z W hz => rcut_any z (U * q) hz W
    have C2 : Hid (∀ z W, z = ((kO + cut (U * q) : Nat) : Int) → Calls Tryz.prog 30 #[.int .i64 z] W fun e w' => e = .returned (.int .i64 (cut (kO + cut (U * q)) : Nat)) ∧ w' = W) := hid9 fun z W hz => rcut_any z (kO + cut (U * q)) hz W
    rcases hU with ⟨hU, hT⟩ | ⟨hU, hT⟩
    · subst hU
      generalize U * q = P at *
      go_enter Tryz.func31, Tryz.ntmps31
      go_wp2_with (first
        | (go_at_call 29; refine HC0.out.mono ?_; clear HC0; rintro e w1 ⟨rfl, HX, HB⟩; have HU := hid9 (HC1.out _ w1 rfl HX HB.out); clear HC1; obtain ⟨x0, x1, x2, x3, x4⟩ := HX)
        | (go_at_call 30; refine (rcut_any _ (s + 1) (by omega) _).mono ?_; rintro e w9 ⟨rfl, w9e⟩; rw [w9e, eIn]; clear w9e)
        | fail)
      go_region_held3 (fun W => W.cell? ⟨w.heap.size, 0, none⟩ = some (.int .i64 51) ∧ W.cell? ⟨w.heap.size, 1, none⟩ = some (.int .i64 (U : Int))) (first | exact ⟨x0, x1⟩ | exact ⟨HV.out.1.1, HV.out.1.2.1⟩ | go_keep) (first
        | (go_at_call 29; refine HU.out.mono ?_; clear HU; rintro e w2 ⟨rfl, HV⟩)
        | (go_at_call 30; first | (refine (C1.out _ _ (by first | exact hW | exact hPe.symm | (rw [if_neg (by omega)]; exact hW) | (rw [if_pos (by omega)]; exact hW) | (rw [if_neg (by omega)]; exact hPe.symm) | (rw [if_pos (by omega)]; exact hPe.symm))).mono ?_; clear C1; rintro e w9 ⟨rfl, w9e⟩; rw [w9e]; clear w9e) | (refine (C2.out _ _ (by first | exact hA | omega | (rw [if_neg (by omega)]; exact hA) | (rw [if_pos (by omega)]; exact hA))).mono ?_; clear C2; rintro e w9 ⟨rfl, w9e⟩; rw [w9e]; clear w9e)))
      all_goals
        go_wp2_with fail
        go_ret
        exact ⟨by rw [HD2.out]; rfl, HV.out.2⟩
    · subst hU
      generalize 1048577 * q = P at *
      go_enter Tryz.func31, Tryz.ntmps31
      go_wp2_with (first
        | (go_at_call 29; refine HC0.out.mono ?_; clear HC0; rintro e w1 ⟨rfl, HX, HB⟩; have HU := hid9 (HC1.out _ w1 rfl HX HB.out); clear HC1; obtain ⟨x0, x1, x2, x3, x4⟩ := HX)
        | (go_at_call 30; refine (rcut_any _ (s + 1) (by omega) _).mono ?_; rintro e w9 ⟨rfl, w9e⟩; rw [w9e, eIn]; clear w9e)
        | fail)
      go_region_held3 (fun W => W.cell? ⟨w.heap.size, 0, none⟩ = some (.int .i64 51) ∧ W.cell? ⟨w.heap.size, 1, none⟩ = some (.int .i64 (T : Int))) (first | exact ⟨x0, x1⟩ | exact ⟨HV.out.1.1, HV.out.1.2.1⟩ | go_keep) (first
        | (go_at_call 29; refine HU.out.mono ?_; clear HU; rintro e w2 ⟨rfl, HV⟩)
        | (go_at_call 30; first | (refine (C1.out _ _ (by first | exact hW | exact hPe.symm | (rw [if_neg (by omega)]; exact hW) | (rw [if_pos (by omega)]; exact hW) | (rw [if_neg (by omega)]; exact hPe.symm) | (rw [if_pos (by omega)]; exact hPe.symm))).mono ?_; clear C1; rintro e w9 ⟨rfl, w9e⟩; rw [w9e]; clear w9e) | (refine (C2.out _ _ (by first | exact hA | omega | (rw [if_neg (by omega)]; exact hA) | (rw [if_pos (by omega)]; exact hA))).mono ?_; clear C2; rintro e w9 ⟨rfl, w9e⟩; rw [w9e]; clear w9e)))
      all_goals
        go_wp2_with fail
        go_ret
        exact ⟨by rw [HD2.out]; rfl, HV.out.2⟩
  · have h51b : (op == 51) = false := by simpa using h51
    have HD2 : Hid (R = if o = true then cut (kO + max th q) else cut (kO + q)) := hid9 (by have := HD.out; rw [if_neg h51] at this; exact this)
    clear HD
    cases o with
    | true =>
      have HD3 : Hid (R = cut (kO + max th q)) := hid9 (by have := HD2.out; rw [if_pos rfl] at this; exact this)
      clear HD2
      have HD2 := HD3
      obtain ⟨U, hU, hUl⟩ : ∃ U, U = max th q ∧ U ≤ 1048577 := ⟨_, rfl, by omega⟩
      rw [← hU] at HD2
      have hA : IntKind.i64.wrap ((kO : Int) + (U : Int)) = ((kO + U : Nat) : Int) := by rw [IntKind.wrap_i64]; omega
      have C2 : Hid (∀ z W, z = ((kO + U : Nat) : Int) → Calls Tryz.prog 30 #[.int .i64 z] W fun e w' => e = .returned (.int .i64 (cut (kO + U) : Nat)) ∧ w' = W) := hid9 fun z W hz => rcut_any z (kO + U) hz W
      clear HD3
      rcases Nat.lt_or_ge th q with hlt | hge
      · have e : U = q := by omega
        clear hU
        subst e
        go_enter Tryz.func31, Tryz.ntmps31
        go_wp2_with (first
          | (go_at_call 29; refine HC0.out.mono ?_; clear HC0; rintro e w1 ⟨rfl, HX, HB⟩; have HU := hid9 (HC1.out _ w1 rfl HX HB.out); clear HC1; obtain ⟨x0, x1, x2, x3, x4⟩ := HX)
          | (go_at_call 30; refine (rcut_any _ (s + 1) (by omega) _).mono ?_; rintro e w9 ⟨rfl, w9e⟩; rw [w9e, eIn]; clear w9e)
          | fail)
        go_region_held3 (fun W => W.cell? ⟨w.heap.size, 0, none⟩ = some (.int .i64 op) ∧ W.cell? ⟨w.heap.size, 3, none⟩ = some (.int .i64 (th : Int))) (first | exact ⟨x0, x3⟩ | exact ⟨HV.out.1.1, HV.out.1.2.2.2.1⟩ | go_keep) (first
          | (go_at_call 29; refine HU.out.mono ?_; clear HU; rintro e w2 ⟨rfl, HV⟩)
          | (go_at_call 30; first | (refine (C2.out _ _ (by first | exact hA | omega | (rw [if_neg (by omega)]; exact hA) | (rw [if_pos (by omega)]; exact hA))).mono ?_; clear C2; rintro e w9 ⟨rfl, w9e⟩; rw [w9e]; clear w9e)))
        all_goals
          go_wp2_with fail
          go_ret
          exact ⟨by rw [HD2.out]; rfl, HV.out.2⟩
      · have e : U = th := by omega
        clear hU
        subst e
        go_enter Tryz.func31, Tryz.ntmps31
        go_wp2_with (first
          | (go_at_call 29; refine HC0.out.mono ?_; clear HC0; rintro e w1 ⟨rfl, HX, HB⟩; have HU := hid9 (HC1.out _ w1 rfl HX HB.out); clear HC1; obtain ⟨x0, x1, x2, x3, x4⟩ := HX)
          | (go_at_call 30; refine (rcut_any _ (s + 1) (by omega) _).mono ?_; rintro e w9 ⟨rfl, w9e⟩; rw [w9e, eIn]; clear w9e)
          | fail)
        go_region_held3 (fun W => W.cell? ⟨w.heap.size, 0, none⟩ = some (.int .i64 op) ∧ W.cell? ⟨w.heap.size, 3, none⟩ = some (.int .i64 (U : Int))) (first | exact ⟨x0, x3⟩ | exact ⟨HV.out.1.1, HV.out.1.2.2.2.1⟩ | go_keep) (first
          | (go_at_call 29; refine HU.out.mono ?_; clear HU; rintro e w2 ⟨rfl, HV⟩)
          | (go_at_call 30; first | (refine (C2.out _ _ (by first | exact hA | omega | (rw [if_neg (by omega)]; exact hA) | (rw [if_pos (by omega)]; exact hA))).mono ?_; clear C2; rintro e w9 ⟨rfl, w9e⟩; rw [w9e]; clear w9e)))
        all_goals
          go_wp2_with fail
          go_ret
          exact ⟨by rw [HD2.out]; rfl, HV.out.2⟩
    | false =>
      have HD3 : Hid (R = cut (kO + q)) := hid9 (by have := HD2.out; simpa using this)
      clear HD2
      have HD2 := HD3
      clear HD3
      have hA : IntKind.i64.wrap ((kO : Int) + (q : Int)) = ((kO + q : Nat) : Int) := by rw [IntKind.wrap_i64]; omega
      have C0 : Hid (∀ z W, z = ((s + 1 : Nat) : Int) → Calls Tryz.prog 30 #[.int .i64 z] W fun e w' => e = .returned (.int .i64 (cut (s + 1) : Nat)) ∧ w' = W) := hid9 fun z W hz => rcut_any z (s + 1) hz W
      have C2 : Hid (∀ z W, z = ((kO + q : Nat) : Int) → Calls Tryz.prog 30 #[.int .i64 z] W fun e w' => e = .returned (.int .i64 (cut (kO + q) : Nat)) ∧ w' = W) := hid9 fun z W hz => rcut_any z (kO + q) hz W
      go_enter Tryz.func31, Tryz.ntmps31
      go_wp2_with (first
        | (go_at_call 29; first | (refine HC0.out.mono ?_; clear HC0; rintro e w1 ⟨rfl, HX, HB⟩; have HU := hid9 (HC2.out _ w1 rfl HX HB.out); clear HC2; obtain ⟨x0, x1, x2, x3, x4⟩ := HX) | (refine HU.out.mono ?_; clear HU; rintro e w2 ⟨rfl, HV⟩))
        | (go_at_call 30; first | (refine (C0.out _ _ (by omega)).mono ?_; clear C0; rintro e w9 ⟨rfl, w9e⟩; rw [w9e, eIn]; clear w9e) | (refine (C2.out _ _ (by first | exact hA | omega | (rw [if_neg (by omega)]; exact hA) | (rw [if_pos (by omega)]; exact hA))).mono ?_; clear C2; rintro e w9 ⟨rfl, w9e⟩; rw [w9e]; clear w9e))
        | fail)
      go_ret
      exact ⟨by rw [HD2.out]; rfl, HV.out.2⟩
set_option maxRecDepth 100000 in
set_option maxHeartbeats 1000000 in
theorem rfine_any (cs : List (Int × Int)) (cal : List Int) (ca la : Option Addr) (cc lc n l : Nat) (hn : cs.length = n) (hl : cal.length = l) (bn : n ≤ 9000000000000) (bl : l ≤ 1000000000000000) (w : World) (hi : IsAt w.cell? ca cs) (hz : NsAt w.cell? la cal) :
    Calls Tryz.prog 28 #[.slice ca n cc, .slice la l lc] w fun e w' => e = .returned (.bool (rightB cs cal)) ∧ w' = w := by
  have HI := hid9 hi
  have HZ := hid9 hz
  have HN := hid9 hn
  have HLn := hid9 hl
  clear hi hz hn hl
  go_enter Tryz.func28, Tryz.ntmps28
  go_wp2_with fail
  go_loopw [5] (fun iv wr => ∃ i : Nat, iv = .int .i64 i ∧ i ≤ l ∧ Hid ((cal.take i).any below9 = false) ∧ w = wr) (fun iv _ => l - (intOf iv).toNat)
  case atStart => exact ⟨0, rfl, Nat.zero_le _, hid9 (by simp), rfl⟩
  case round =>
    obtain ⟨i, rfl, hil, HA, rfl⟩ := hrel
    by_cases hlt : i < l
    · have hl2 : i < cal.length := by rw [HLn.out]; exact hlt
      obtain ⟨zb, zo, e1, z1⟩ : ∃ zb zo, la = some ⟨zb, zo, none⟩ ∧ w.cell? ⟨zb, zo + i, none⟩ = some (.int .i64 cal[i]) := by
        rcases HZ.out with h | ⟨b, o, e, h⟩
        · rw [h] at hl2; cases hl2
        · exact ⟨b, o, e, h i hl2⟩
      subst e1
      by_cases hneg : cal[i] < 0
      · have HF : Hid (rightB cs cal = false) := hid9 (by
          unfold rightB
          have : cal.any below9 = true := List.any_eq_true.2 ⟨cal[i], List.getElem_mem hl2, by unfold below9; exact decide_eq_true hneg⟩
          rw [this]; simp)
        generalize cal[i] = x at *
        go_wp2_with fail
        go_ret
        exact ⟨by rw [HF.out]; rfl, rfl⟩
      · have HA2 : Hid ((cal.take (i + 1)).any below9 = false) := hid9 (by
          rw [List.take_succ_eq_append_getElem hl2, List.any_append, HA.out]
          simp [below9]; omega)
        generalize cal[i] = x at *
        go_wp2_with fail
        exact ⟨⟨i + 1, by go_num, by omega, HA2, by first | trivial | rfl⟩, by simp [intOf]; omega⟩
    · have e : i = l := by omega
      subst e
      have HA2 : Hid (cal.any below9 = false) := hid9 (by have := HA.out; rw [← HLn.out, List.take_length] at this; exact this)
      clear HA
      go_wp2_with fail
      go_loopw [6] (fun iv wr => ∃ k : Nat, iv = .int .i64 k ∧ k ≤ n ∧ Hid ((cs.take k).any (wrong9 cal.length) = false) ∧ w = wr) (fun iv _ => n - (intOf iv).toNat)
      case atStart => exact ⟨0, rfl, Nat.zero_le _, hid9 (by simp), rfl⟩
      case round =>
        obtain ⟨k, rfl, hkn, HB, rfl⟩ := hrel
        by_cases hlt2 : k < n
        · have hk2 : k < cs.length := by rw [HN.out]; exact hlt2
          obtain ⟨cb, co, e1, q0, q1⟩ : ∃ cb co, ca = some ⟨cb, co, none⟩ ∧ w.cell? ⟨cb, co + k * 2, none⟩ = some (.int .i64 cs[k].1) ∧ w.cell? ⟨cb, co + k * 2 + 1, none⟩ = some (.int .i64 cs[k].2) := by
            rcases HI.out with h | ⟨b, o, e, h⟩
            · rw [h] at hk2; cases hk2
            · exact ⟨b, o, e, h k hk2⟩
          subst e1
          have HW : Hid (wrong9 cal.length cs[k] = true → rightB cs cal = false) := hid9 fun h => by
            unfold rightB
            have : cs.any (wrong9 cal.length) = true := List.any_eq_true.2 ⟨cs[k], List.getElem_mem hk2, h⟩
            rw [this]; simp
          have HV : Hid (wrong9 cal.length cs[k] = false → (cs.take (k + 1)).any (wrong9 cal.length) = false) := hid9 fun h => by
            rw [List.take_succ_eq_append_getElem hk2, List.any_append, HB.out]
            simp [h]
          have HE : Hid (wrong9 cal.length cs[k] = (if cs[k].1 = 53 then decide (cs[k].2 < 0 ∨ (i : Int) ≤ cs[k].2) else if cs[k].1 = 51 then decide (cs[k].2 < 0) else false)) := hid9 (by rw [wrong9, HLn.out])
          generalize wrong9 cal.length cs[k] = wr9 at *
          generalize cs[k].1 = o at *
          generalize cs[k].2 = a at *
          clear HB HA2 HI HZ
          by_cases o1 : o = 53
          · subst o1
            have E2 : Hid (wr9 = decide (a < 0 ∨ (i : Int) ≤ a)) := hid9 (by have := HE.out; simpa using this)
            clear HE
            by_cases a1 : a < 0 ∨ (i : Int) ≤ a
            · have E3 : Hid (rightB cs cal = false) := hid9 (HW.out (by rw [E2.out]; exact decide_eq_true a1))
              rcases Int.lt_or_le a 0 with a2 | a2
              · go_wp2_with fail
                go_ret
                exact ⟨by rw [E3.out]; rfl, rfl⟩
              · have a3 : (i : Int) ≤ a := by omega
                go_wp2_with fail
                go_ret
                exact ⟨by rw [E3.out]; rfl, rfl⟩
            · have E3 := hid9 (HV.out (by rw [E2.out]; exact decide_eq_false a1))
              have a2 : 0 ≤ a := by omega
              have a3 : a < (i : Int) := by omega
              go_wp2_with fail
              exact ⟨⟨k + 1, by go_num, by omega, E3, by first | trivial | rfl⟩, by simp [intOf]; omega⟩
          have o1b : (o == 53) = false := by simpa using o1
          by_cases o2 : o = 51
          · subst o2
            have E2 : Hid (wr9 = decide (a < 0)) := hid9 (by have := HE.out; simpa using this)
            clear HE
            by_cases a1 : a < 0
            · have E3 : Hid (rightB cs cal = false) := hid9 (HW.out (by rw [E2.out]; exact decide_eq_true a1))
              go_wp2_with fail
              go_ret
              exact ⟨by rw [E3.out]; rfl, rfl⟩
            · have E3 := hid9 (HV.out (by rw [E2.out]; exact decide_eq_false a1))
              have a2 : 0 ≤ a := by omega
              go_wp2_with fail
              exact ⟨⟨k + 1, by go_num, by omega, E3, by first | trivial | rfl⟩, by simp [intOf]; omega⟩
          · have o2b : (o == 51) = false := by simpa using o2
            have E3 := hid9 (HV.out (by rw [HE.out, if_neg o1, if_neg o2]))
            clear HE
            go_wp2_with fail
            exact ⟨⟨k + 1, by go_num, by omega, E3, by first | trivial | rfl⟩, by simp [intOf]; omega⟩
        · have HF : Hid (rightB cs cal = true) := hid9 (by
            have h1 := HB.out
            rw [show k = n by omega, ← HN.out, List.take_length] at h1
            unfold rightB
            rw [h1, HA2.out]; rfl)
          go_wp2_with fail
          go_ret
          exact ⟨by rw [HF.out]; rfl, rfl⟩
end Go.Proofs.YtodagpmcmjleaaaGreat
namespace Go.Proofs.YtodagpmcmjleaaaGreat
theorem gset (ms : List Int) (i j : Nat) (v : Int) (hj : j < ms.length) : (ms.set i v).getD j 0 = if i = j then v else ms.getD j 0 := by
  rw [List.getD_eq_getElem?_getD, List.getElem?_set]
  split
  · rename_i h
    subst h
    rw [if_pos hj]
    rfl
  · rw [← List.getD_eq_getElem?_getD]
structure Inv (op : Nat → Int) (k : Nat) (L : List Blk) (ms : List Int) : Prop where
  blk : ∀ b ∈ L, ∃ s : Nat, b.s = s ∧ s < k ∧ op s = (if b.l = true then 51 else 48) ∧ (b.o = -1 ∨ ∃ o : Nat, b.o = o ∧ s < o ∧ o < k ∧ op o = 49 ∧ b.l = false)
  ends : ∀ j, j < k → op j = 50 → 0 ≤ ms.getD j 0 ∧ ms.getD j 0 < j
  opn : ∀ j, j < k → (op j = 48 ∨ op j = 49 ∨ op j = 51) → (∃ b ∈ L, b.s = j ∨ b.o = j) ∨ ((j : Int) < ms.getD j 0 ∧ ms.getD j 0 < k)
  lev : ∀ j, j < k → op j = 52 → ∃ s : Nat, ms.getD j 0 = s ∧ s < j ∧ op s = 51 ∧ ((∃ b ∈ L, b.s = s) ∨ (j : Int) < ms.getD s 0)
theorem Inv.more {op : Nat → Int} {k : Nat} {L L' : List Blk} {ms : List Int} (h : Inv op k L ms) (hk : op k ≠ 50 ∧ op k ≠ 52) (hb : ∀ b ∈ L', ∃ s : Nat, b.s = s ∧ s < k + 1 ∧ op s = (if b.l = true then 51 else 48) ∧ (b.o = -1 ∨ ∃ o : Nat, b.o = o ∧ s < o ∧ o < k + 1 ∧ op o = 49 ∧ b.l = false))
    (hp : ∀ b ∈ L, ∃ b' ∈ L', b'.s = b.s ∧ (b.o = -1 ∨ b'.o = b.o)) (hn : (op k = 48 ∨ op k = 49 ∨ op k = 51) → ∃ b ∈ L', b.s = k ∨ b.o = k) : Inv op (k + 1) L' ms := by
  refine ⟨hb, fun j hj e => ?_, fun j hj e => ?_, fun j hj e => ?_⟩
  · by_cases h1 : j = k
    · subst h1; exact absurd e hk.1
    · exact h.ends j (by omega) e
  · by_cases h1 : j = k
    · subst h1; exact .inl (hn e)
    · rcases h.opn j (by omega) e with ⟨b, hb1, hb2⟩ | ⟨h2, h3⟩
      · obtain ⟨b', c1, c2, c3⟩ := hp b hb1
        refine .inl ⟨b', c1, ?_⟩
        rcases hb2 with h | h
        · exact .inl (c2.trans h)
        · rcases c3 with c3 | c3
          · omega
          · exact .inr (c3.trans h)
      · exact .inr ⟨h2, by omega⟩
  · by_cases h1 : j = k
    · subst h1; exact absurd e hk.2
    · obtain ⟨s, a1, a2, a3, a4⟩ := h.lev j (by omega) e
      refine ⟨s, a1, a2, a3, ?_⟩
      rcases a4 with ⟨b, hb1, hb2⟩ | a4
      · obtain ⟨b', c1, c2, _⟩ := hp b hb1
        exact .inl ⟨b', c1, c2.trans hb2⟩
      · exact .inr a4
theorem Inv.leave {op : Nat → Int} {k i : Nat} {L : List Blk} {ms : List Int} {b : Blk} (h : Inv op k L ms) (hk : op k = 52) (hl : k < ms.length) (hb : L[i]? = some b) (hbl : b.l = true) : Inv op (k + 1) L (ms.set k b.s) := by
  obtain ⟨s, e1, e2, e3, _⟩ := h.blk b (List.mem_of_getElem? hb)
  rw [if_pos hbl] at e3
  refine ⟨fun c hc => ?_, fun j hj e => ?_, fun j hj e => ?_, fun j hj e => ?_⟩
  · obtain ⟨s, a1, a2, a3, a4⟩ := h.blk c hc
    refine ⟨s, a1, by omega, a3, ?_⟩
    rcases a4 with a4 | ⟨o, b1, b2, b3, b4, b5⟩
    · exact .inl a4
    · exact .inr ⟨o, b1, b2, by omega, b4, b5⟩
  · have h1 : j ≠ k := by rintro rfl; omega
    rw [gset _ _ _ _ (by omega), if_neg (by omega)]
    exact h.ends j (by omega) e
  · have h1 : j ≠ k := by rintro rfl; omega
    rw [gset _ _ _ _ (by omega), if_neg (by omega)]
    rcases h.opn j (by omega) e with a | ⟨a, a'⟩
    · exact .inl a
    · exact .inr ⟨a, by omega⟩
  · by_cases h1 : j = k
    · subst h1
      rw [gset _ _ _ _ hl, if_pos rfl]
      exact ⟨s, e1, e2, e3, .inl ⟨b, List.mem_of_getElem? hb, e1⟩⟩
    · obtain ⟨s', a1, a2, a3, a4⟩ := h.lev j (by omega) e
      rw [gset _ _ _ _ (by omega), if_neg (by omega)]
      refine ⟨s', a1, a2, a3, ?_⟩
      rw [gset _ _ _ _ (by omega), if_neg (by omega)]
      exact a4
theorem pair_get {ms : List Int} {s t j : Nat} {o : Option Nat} (hj : j < ms.length) (hst : s ≠ t) (ho : ∀ x, o = some x → x ≠ s ∧ x ≠ t) : (pairS ms s o t).getD j 0 = if j = t then (s : Int) else if j = s then ((o.getD t : Nat) : Int) else if some j = o then (t : Int) else ms.getD j 0 := by
  cases o with
  | none =>
    simp only [pairS]
    rw [gset _ _ _ _ (by simpa using hj), gset _ _ _ _ hj]
    by_cases h1 : j = t
    · subst h1; simp
    · rw [if_neg (fun h => h1 h.symm), if_neg h1]
      by_cases h2 : j = s
      · subst h2; simp
      · rw [if_neg (fun h => h2 h.symm), if_neg h2]; simp
  | some x =>
    obtain ⟨x1, x2⟩ := ho x rfl
    simp only [pairS]
    rw [gset _ _ _ _ (by simpa using hj), gset _ _ _ _ (by simpa using hj), gset _ _ _ _ (by simpa using hj), gset _ _ _ _ hj]
    by_cases h1 : j = t
    · subst h1
      rw [if_neg x2, if_neg hst, if_pos rfl, if_pos rfl]
    · by_cases h2 : j = s
      · subst h2
        rw [if_neg x1, if_pos rfl, if_neg h1, if_pos rfl]; rfl
      · by_cases h3 : x = j
        · subst h3
          rw [if_pos rfl, if_neg h1, if_neg h2, if_pos rfl]
        · rw [if_neg h3, if_neg (fun h => h2 h.symm), if_neg (fun h => h1 h.symm), if_neg (fun h => h2 h.symm), if_neg h1, if_neg h2, if_neg (fun h => h3 (Option.some.inj h).symm)]
theorem Inv.close {op : Nat → Int} {k : Nat} {M : List Blk} {ms : List Int} {b : Blk} (h : Inv op k (M ++ [b]) ms) (hk : op k = 50) (hl : k < ms.length) : Inv op (k + 1) M (pairS ms b.s.toNat (oOf b.o) k) := by
  obtain ⟨s, e1, e2, e3, e4⟩ := h.blk b (by simp)
  have es : b.s.toNat = s := by omega
  rw [es]
  have ho : ∀ x, oOf b.o = some x → s < x ∧ x < k ∧ op x = 49 ∧ b.l = false := by
    intro x hx
    rcases e4 with e4 | ⟨o, a1, a2, a3, a4, a5⟩
    · rw [oOf, if_pos e4] at hx; cases hx
    · rw [oOf, if_neg (by omega)] at hx
      have : o = x := by have := Option.some.inj hx; omega
      subst this
      exact ⟨a2, a3, a4, a5⟩
  clear e4
  have hg : ∀ j, j < k + 1 → (pairS ms s (oOf b.o) k).getD j 0 = if j = k then (s : Int) else if j = s then (((oOf b.o).getD k : Nat) : Int) else if some j = oOf b.o then (k : Int) else ms.getD j 0 := fun j hj => pair_get (by omega) (by omega) (fun x hx => by have := ho x hx; omega)
  have hsop : op s = 48 ∨ op s = 51 := by
    rw [e3]; split
    · exact .inr rfl
    · exact .inl rfl
  have hod : s < (oOf b.o).getD k ∧ (oOf b.o).getD k < k + 1 := by
    cases hx : oOf b.o with
    | none => exact ⟨e2, Nat.lt_succ_self _⟩
    | some x => have := ho x hx; simp; omega
  refine ⟨fun c hc => ?_, fun j hj e => ?_, fun j hj e => ?_, fun j hj e => ?_⟩
  · obtain ⟨s, a1, a2, a3, a4⟩ := h.blk c (by simp [hc])
    refine ⟨s, a1, by omega, a3, ?_⟩
    rcases a4 with a4 | ⟨o, b1, b2, b3, b4, b5⟩
    · exact .inl a4
    · exact .inr ⟨o, b1, b2, by omega, b4, b5⟩
  · rw [hg j hj]
    by_cases h1 : j = k
    · subst h1
      rw [if_pos rfl]; omega
    · have h2 : j ≠ s := by rintro rfl; omega
      have h3 : ¬ some j = oOf b.o := fun h => by have := ho j h.symm; omega
      rw [if_neg h1, if_neg h2, if_neg h3]
      exact h.ends j (by omega) e
  · have h1 : j ≠ k := by rintro rfl; omega
    rw [hg j hj, if_neg h1]
    by_cases h2 : j = s
    · subst h2
      rw [if_pos rfl]
      exact .inr ⟨by omega, by omega⟩
    · rw [if_neg h2]
      by_cases h3 : some j = oOf b.o
      · rw [if_pos h3]
        exact .inr ⟨by omega, by omega⟩
      · rw [if_neg h3]
        rcases h.opn j (by omega) e with ⟨c, c1, c2⟩ | ⟨a, a'⟩
        · rcases List.mem_append.1 c1 with c1 | c1
          · exact .inl ⟨c, c1, c2⟩
          · simp at c1
            subst c1
            rcases c2 with c2 | c2
            · exact absurd (Int.ofNat_inj.1 (c2.symm.trans e1)) h2
            · exact absurd (by rw [oOf, if_neg (by omega), c2]; simp) h3
        · exact .inr ⟨a, by omega⟩
  · have h1 : j ≠ k := by rintro rfl; omega
    have h2 : j ≠ s := by rintro rfl; omega
    have h3 : ¬ some j = oOf b.o := fun h => by have := ho j h.symm; omega
    obtain ⟨s', a1, a2, a3, a4⟩ := h.lev j (by omega) e
    rw [hg j hj, if_neg h1, if_neg h2, if_neg h3]
    refine ⟨s', a1, a2, a3, ?_⟩
    have g1 : s' ≠ k := by omega
    have g3 : ¬ some s' = oOf b.o := fun h => by have := ho s' h.symm; omega
    rw [hg s' (by omega), if_neg g1, if_neg g3]
    by_cases g2 : s' = s
    · subst g2
      rw [if_pos rfl]
      have hbl : b.l = true := by
        cases hb : b.l with
        | true => rfl
        | false => rw [hb] at e3; simp at e3; omega
      have : oOf b.o = none := by
        cases hx : oOf b.o with
        | none => rfl
        | some x => have := (ho x hx).2.2.2; rw [hbl] at this; cases this
      rw [this]
      clear a4
      exact .inr (by simp; omega)
    · rw [if_neg g2]
      rcases a4 with ⟨c, c1, c2⟩ | a4
      · rcases List.mem_append.1 c1 with c1 | c1
        · exact .inl ⟨c, c1, c2⟩
        · simp at c1
          subst c1
          exact absurd (Int.ofNat_inj.1 (c2.symm.trans e1)) g2
      · exact .inr a4
def opA (cs : List (Int × Int)) (j : Nat) : Int := (opsI cs).getD j 0
theorem Inv.blkS {op : Nat → Int} {k : Nat} {L : List Blk} {ms : List Int} (h : Inv op k L ms) : ∀ b ∈ L, ∃ s : Nat, b.s = s ∧ s < k + 1 ∧ op s = (if b.l = true then 51 else 48) ∧ (b.o = -1 ∨ ∃ o : Nat, b.o = o ∧ s < o ∧ o < k + 1 ∧ op o = 49 ∧ b.l = false) := by
  intro c hc
  obtain ⟨s, a1, a2, a3, a4⟩ := h.blk c hc
  refine ⟨s, a1, by omega, a3, ?_⟩
  rcases a4 with a4 | ⟨o, b1, b2, b3, b4, b5⟩
  · exact .inl a4
  · exact .inr ⟨o, b1, b2, by omega, b4, b5⟩
theorem Inv.next {op : Nat → Int} {k : Nat} {L : List Blk} {ms : List Int} (h : Inv op k L ms) (hs : standS (op k) L = true) (hl : k < ms.length) : Inv op (k + 1) (stepS (op k) k L) (visS (op k) k L ms) := by
  by_cases h1 : op k = 48 ∨ op k = 51
  · have e1 : stepS (op k) k L = L ++ [⟨k, -1, decide (op k = 51)⟩] := by simp only [stepS, if_pos h1]
    have e2 : visS (op k) k L ms = ms := by simp only [visS]; rw [if_neg (by omega), if_neg (by omega)]
    rw [e1, e2]
    refine h.more ⟨by omega, by omega⟩ ?_ (fun b hb => ⟨b, by simp [hb], rfl, .inr rfl⟩) (fun _ => ⟨_, List.mem_append_right _ (List.mem_singleton.2 rfl), .inl rfl⟩)
    intro b hb
    rcases List.mem_append.1 hb with hb | hb
    · exact h.blkS b hb
    · simp at hb
      subst hb
      refine ⟨k, rfl, Nat.lt_succ_self _, ?_, .inl rfl⟩
      rcases h1 with h1 | h1 <;> simp [h1]
  by_cases h2 : op k = 49
  · rcases List.eq_nil_or_concat L with rfl | ⟨M, b, rfl⟩
    · simp [standS, h2] at hs
    rw [List.concat_eq_append] at h hs ⊢
    rw [h2] at hs ⊢
    have e1 : stepS 49 k (M ++ [b]) = M ++ [⟨b.s, k, b.l⟩] := by simp [stepS]
    have e2 : visS 49 k (M ++ [b]) ms = ms := by simp [visS]
    have hb1 : b.l = false ∧ b.o = -1 := by simpa [standS] using hs
    rw [e1, e2]
    refine h.more ⟨by omega, by omega⟩ ?_ ?_ (fun _ => ⟨_, List.mem_append_right _ (List.mem_singleton.2 rfl), .inr rfl⟩)
    · intro c hc
      rcases List.mem_append.1 hc with hc | hc
      · exact h.blkS c (by simp [hc])
      · simp at hc
        subst hc
        obtain ⟨s, a1, a2, a3, _⟩ := h.blk b (by simp)
        exact ⟨s, a1, by omega, a3, .inr ⟨k, rfl, a2, Nat.lt_succ_self _, h2, hb1.1⟩⟩
    · intro c hc
      rcases List.mem_append.1 hc with hc | hc
      · exact ⟨c, by simp [hc], rfl, .inr rfl⟩
      · simp at hc
        subst hc
        exact ⟨_, List.mem_append_right _ (List.mem_singleton.2 rfl), rfl, .inl hb1.2⟩
  by_cases h3 : op k = 50
  · rcases List.eq_nil_or_concat L with rfl | ⟨M, b, rfl⟩
    · simp [standS, h3] at hs
    rw [List.concat_eq_append] at h hs ⊢
    have e1 : stepS (op k) k (M ++ [b]) = M := by rw [h3]; simp [stepS]
    have e2 : visS (op k) k (M ++ [b]) ms = pairS ms b.s.toNat (oOf b.o) k := by rw [h3]; simp [visS]
    rw [e1, e2]
    exact h.close h3 hl
  have e1 : stepS (op k) k L = L := by simp only [stepS, if_neg h1, if_neg h2, if_neg h3]
  rw [e1]
  by_cases h4 : op k = 52
  · have hsome : (firstIx L Blk.l L.length).isSome = true := by rw [h4] at hs; simpa [standS] using hs
    obtain ⟨i, hi⟩ := Option.isSome_iff_exists.1 hsome
    obtain ⟨_, b, hb, hbl⟩ := firstIx_lt hi
    have e2 : visS (op k) k L ms = ms.set k b.s := by rw [h4]; simp [visS, hi, hb]
    rw [e2]
    exact h.leave h4 hl hb hbl
  · have e2 : visS (op k) k L ms = ms := by simp only [visS, if_neg h3, if_neg h4]
    rw [e2]
    exact h.more ⟨h3, h4⟩ h.blkS (fun b hb => ⟨b, hb, rfl, .inr rfl⟩) (fun e => by omega)
theorem inv_all (cs : List (Int × Int)) : ∀ k L, k ≤ cs.length → runS (opsI (cs.take k)) 0 [] = some L → Inv (opA cs) k L (mst cs k).2
  | 0, L, _, h => by
    simp [opsI, runS] at h
    subst h
    exact ⟨fun b hb => (by cases hb), fun j h => (by omega), fun j h => (by omega), fun j h => (by omega)⟩
  | k + 1, L', hk, h => by
    obtain ⟨L, h1, hs, rfl⟩ := run_prev (by omega) h
    obtain ⟨i1, _, _⟩ := mst_inv cs k L (by omega) h1
    have hop := ops_at (cs := cs) (k := k) (by omega)
    have hop2 : opA cs k = cs[k].1 := hop
    have := (inv_all cs k L (by omega) h1).next (by rw [hop2]; exact hs) (by rw [mst_len]; omega)
    simp only [mst]
    rw [i1]
    rw [hop2] at this
    rw [hop]
    exact this
theorem lead_get (ops ms : List Int) (hm : ∀ j, ops[j]? = some 52 → ops[(ms.getD j 0).toNat]? ≠ some 52) (hlen : ms.length = ops.length) : ∀ k j, k ≤ ops.length → (leadS ops ms k).getD j 0 = if j < k ∧ ops[j]? = some 52 then ms.getD (ms.getD j 0).toNat 0 else ms.getD j 0
  | 0, j, _ => by rw [if_neg (by omega)]; rfl
  | k + 1, j, hk => by
    have ih := lead_get ops ms hm hlen k
    simp only [leadS]
    split
    · rename_i hop
      by_cases h1 : j = k
      · subst h1
        rw [gset _ _ _ _ (by rw [leadS_len]; omega), if_pos rfl, if_pos ⟨Nat.lt_succ_self _, hop⟩]
        rw [leadS_same ops ms j j (Nat.le_refl _), ih _ (by omega), if_neg (fun h => hm j hop h.2)]
      · rw [List.getD_eq_getElem?_getD, List.getElem?_set_ne (by omega), ← List.getD_eq_getElem?_getD, ih j (by omega)]
        by_cases h2 : j < k
        · by_cases h3 : ops[j]? = some 52
          · rw [if_pos ⟨h2, h3⟩, if_pos ⟨by omega, h3⟩]
          · rw [if_neg (fun h => h3 h.2), if_neg (fun h => h3 h.2)]
        · rw [if_neg (by omega), if_neg (by omega)]
    · rename_i hop
      rw [ih j (by omega)]
      by_cases h3 : ops[j]? = some 52
      · have : j ≠ k := by rintro rfl; exact hop h3
        by_cases h2 : j < k
        · rw [if_pos ⟨h2, h3⟩, if_pos ⟨by omega, h3⟩]
        · rw [if_neg (by omega), if_neg (by omega)]
      · rw [if_neg (fun h => h3 h.2), if_neg (fun h => h3 h.2)]
theorem opsI_len (cs : List (Int × Int)) : (opsI cs).length = cs.length := by simp [opsI]
theorem ops_some {cs : List (Int × Int)} {j : Nat} (hj : j < cs.length) : (opsI cs)[j]? = some (opA cs j) := by
  rw [opA, List.getD_eq_getElem?_getD, List.getElem?_eq_getElem (by rw [opsI_len]; exact hj)]
  rfl
/-- Where an instruction of good shape leads. -/
theorem match_facts {cs : List (Int × Int)} (hg : goodS cs = true) {j : Nat} (hj : j < cs.length) :
    (opA cs j = 50 → 0 ≤ (matchS cs).getD j 0 ∧ (matchS cs).getD j 0 < j) ∧ ((opA cs j = 48 ∨ opA cs j = 49 ∨ opA cs j = 51 ∨ opA cs j = 52) → (j : Int) < (matchS cs).getD j 0 ∧ (matchS cs).getD j 0 < cs.length) := by
  have hrun : runS (opsI (cs.take cs.length)) 0 [] = some [] := by rw [List.take_length]; exact of_decide_eq_true hg
  have I := inv_all cs cs.length [] (Nat.le_refl _) hrun
  have hfwd : ∀ i, i < cs.length → (opA cs i = 48 ∨ opA cs i = 49 ∨ opA cs i = 51) → (i : Int) < (mst cs cs.length).2.getD i 0 ∧ (mst cs cs.length).2.getD i 0 < cs.length := by
    intro i hi e
    rcases I.opn i hi e with ⟨b, hb, _⟩ | h
    · cases hb
    · exact h
  have hlev : ∀ i, i < cs.length → opA cs i = 52 → ∃ s : Nat, (mst cs cs.length).2.getD i 0 = s ∧ s < i ∧ opA cs s = 51 ∧ (i : Int) < (mst cs cs.length).2.getD s 0 := by
    intro i hi e
    obtain ⟨s, a1, a2, a3, a4⟩ := I.lev i hi e
    rcases a4 with ⟨b, hb, _⟩ | h
    · cases hb
    · exact ⟨s, a1, a2, a3, h⟩
  have hl := lead_get (opsI cs) (mst cs cs.length).2 (by
    intro i hi h2
    have hil : i < cs.length := by
      have := (List.getElem?_eq_some_iff.1 hi).1
      rwa [opsI_len] at this
    rw [ops_some hil] at hi
    obtain ⟨s, a1, a2, a3, _⟩ := hlev i hil (Option.some.inj hi)
    rw [a1, Int.toNat_natCast, ops_some (by omega)] at h2
    have := Option.some.inj h2
    omega) (by rw [mst_len, opsI_len]) cs.length j (by rw [opsI_len]; exact Nat.le_refl _)
  rw [ops_some hj] at hl
  change (matchS cs).getD j 0 = _ at hl
  rw [hl]
  constructor
  · intro e
    rw [if_neg (fun h => by have := Option.some.inj h.2; omega)]
    exact I.ends j hj e
  · intro e
    by_cases h52 : opA cs j = 52
    · rw [if_pos ⟨hj, by rw [h52]⟩]
      obtain ⟨s, a1, a2, a3, a4⟩ := hlev j hj h52
      rw [a1, Int.toNat_natCast]
      exact ⟨a4, (hfwd s (by omega) (.inr (.inr a3))).2⟩
    · rw [if_neg (fun h => h52 (Option.some.inj h.2))]
      exact hfwd j hj (by omega)
theorem matchS_len (cs : List (Int × Int)) : (matchS cs).length = cs.length := by rw [matchS, leadS_len, mst_len]
end Go.Proofs.YtodagpmcmjleaaaGreat
