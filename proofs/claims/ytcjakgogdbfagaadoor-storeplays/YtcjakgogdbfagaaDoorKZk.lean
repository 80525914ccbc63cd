/- Layer 11: the law's step, walked. -/
import Derived.Test.YtcjakgogdbfagaaDoorKZe
import Derived.Test.YtcjakgogdbfagaaDoorRIg
import Derived.Deep.RegionHeld3
import Derived.Deep.CutBlock
namespace Go.Proofs.YtcjakgogdbfagaaDoor
open Go.RowKit
/-- A slice of these bytes. -/
def Cq (XB : List UInt8) (W : World) (v : Value) : Prop := ∃ ao n c, v = .slice ao n c ∧ n = XB.length ∧ Bs W ao XB
theorem Cq.below {XB : List UInt8} {W W' : World} {v : Value} (h : Cq XB W v) (k : Below W.heap.size W W') : Cq XB W' v := by
  obtain ⟨ao, n, c, h1, h2, h3⟩ := h
  exact ⟨ao, n, c, h1, h2, h3.keep (below_keep k)⟩
def Pq (T : Nat → Value) (XB : List UInt8) (i : Nat) (v : Value) (W : World) : Prop := (i = 13 ∨ i = 16 → ∃ ao n c, v = .slice ao n c ∧ Cq XB W (.slice ao n c)) ∧ (i ≠ 13 → i ≠ 16 → v = T i)
theorem Pq.t {T : Nat → Value} {XB : List UInt8} {i : Nat} {v : Value} {W : World} (h4 : i ≠ 13) (h7 : i ≠ 16) (h : v = T i) : Pq T XB i v W := ⟨fun e => by rcases e with e | e; exact absurd e h4; exact absurd e h7, fun _ _ => h⟩
theorem Pq.c {T : Nat → Value} {XB : List UInt8} {i : Nat} {v : Value} {W : World} (hi : i = 13 ∨ i = 16) (h : Cq XB W v) : Pq T XB i v W := ⟨fun _ => by
  obtain ⟨ao, n, c, rfl, h2⟩ := h
  exact ⟨ao, n, c, rfl, ao, n, c, rfl, h2⟩, fun h4 h7 => by rcases hi with e | e; exact absurd e h4; exact absurd e h7⟩
theorem Pq.below {T : Nat → Value} {XB : List UInt8} {i : Nat} {v : Value} {W W' : World} (h : Pq T XB i v W) (k : Below W.heap.size W W') : Pq T XB i v W' := ⟨fun e => by
  obtain ⟨ao, n, c, h1, h2⟩ := h.1 e
  exact ⟨ao, n, c, h1, h2.below k⟩, h.2⟩
theorem Cq.run {XB : List UInt8} {W : World} {ao : Option Addr} {n c : Nat} (h : Cq XB W (.slice ao n c)) : (convert 53 9 (.slice ao n c)).run Tryd.prog W = .ok (sv XB) W := by
  obtain ⟨a, n', c', e, h2, h3⟩ := h
  cases e
  subst h2
  exact run_str h3 _
section
variable {s r t q : Nat} {M N1 N2 : Kvs} {w0 w : World}
theorem pj_sbytes (j : PJ s r t q M M N1 N2 w0 w) (hM : MOk M) : Calls Tryd.prog 24 #[.pointer (some ⟨s, 0, none⟩)] w fun e w1 => ∃ v, e = .returned v ∧ Cq (stB M) w1 v ∧ Below w.heap.size w w1 := by
  obtain ⟨tb, g, h0⟩ := j.st
  refine (bytes_w s tb g M w h0 hM.len hM.small).mono ?_
  rintro e w1 ⟨qa, e1, hO, b1⟩
  obtain ⟨ao, cap, e2, _, _, hB, _⟩ := Own.bs hO
  exact ⟨_, e1, ⟨_, _, _, rfl, rfl, by injection e2 with e2; rw [e2]; exact hB⟩, b1⟩
theorem pj_rbytes (j : PJ s r t q M M N1 N2 w0 w) (hM : MOk M) : Calls Tryd.prog 25 #[.pointer (some ⟨r, 0, none⟩)] w fun e w1 => ∃ v, e = .returned v ∧ Cq (stB M) w1 v ∧ Below w.heap.size w w1 := by
  obtain ⟨v, k0⟩ := j.rf
  refine (rbytes_any r v M w k0 hM.len hM.small).mono ?_
  rintro e w2 ⟨v2, rfl, o2, b2⟩
  obtain ⟨qb, cb, rfl, _, _, B2, _⟩ := Own.bs o2
  exact ⟨_, rfl, ⟨_, _, _, rfl, rfl, B2⟩, b2⟩
theorem pj_len (j : PJ s r t q M M N1 N2 w0 w) : Calls Tryd.prog 15 #[.pointer (some ⟨s, 0, none⟩)] w fun e w1 => e = .returned (.int .i64 (M.length : Nat)) ∧ Below w.heap.size w w1 := by
  obtain ⟨tb, g, h0⟩ := j.st
  refine (slen_any s tb g M w h0).mono ?_
  rintro e w1 ⟨e1, rfl⟩
  exact ⟨e1, Below.refl _ _⟩
theorem pj_hash (j : PJ s r t q M M N1 N2 w0 w) (hM : MOk M) (ht : Tab w0) : Calls Tryd.prog 26 #[.pointer (some ⟨s, 0, none⟩)] w fun e w1 => e = .returned (.int .i64 (crc (stB M) : Nat)) ∧ Below w.heap.size w w1 := by
  obtain ⟨tb, g, h0⟩ := j.st
  exact shash_any s tb g M w h0 hM.len hM.small (ht.keep (below_keep j.bel))
theorem pj_rhash (j : PJ s r t q M M N1 N2 w0 w) (hM : MOk M) : Calls Tryd.prog 27 #[.pointer (some ⟨r, 0, none⟩)] w fun e w1 => e = .returned (.int .i64 (crc (stB M) : Nat)) ∧ Below w.heap.size w w1 := by
  obtain ⟨v, k0⟩ := j.rf
  exact rhash_any r v M w k0 hM.len hM.small
end
set_option maxRecDepth 100000 in
set_option maxHeartbeats 1000000 in
theorem step_any {s r t q : Nat} {M N1 N2 : Kvs} {w0 w : World} (j : PJ s r t q M M N1 N2 w0 w) (hM : MOk M) (ht : Tab w0) (o : Opn) (ho : o.ok) :
    Calls Tryd.prog 6 #[.pointer (some ⟨s, 0, none⟩), .pointer (some ⟨r, 0, none⟩), .agg #[.int .i64 o.kd, .int .i64 o.nn, sv o.k, sv o.v]] w fun e w' => e = .returned (.bool true) ∧ Hid (PJ s r t q (stepM M o) (stepM M o) N1 N2 w0 w') := by
  obtain ⟨kd, nn, k, v⟩ := o
  have hk : k.length ≤ 9223372036854775807 := ho.2.2.1
  have hv : v.length ≤ 9223372036854775807 := ho.2.2.2
  have JX := hidb (PX.start j #[.int .i64 kd, .int .i64 nn, sv k, sv v])
  clear j ho
  simp only
  go_enter Tryd.func6, Tryd.ntmps6
  go_upto_block 0 with fail
  obtain ⟨Z, hZ⟩ : ∃ Z, Z = w.heap.size := ⟨_, rfl⟩
  obtain ⟨W, hW⟩ : ∃ W, W = w.alloc (.cells #[.int .i64 kd, .int .i64 nn, sv k, sv v] 32) := ⟨_, rfl⟩
  rw [← hZ, ← hW] at JX ⊢
  clear hZ hW
  go_cut [7] from 8 to 112 (fun x wx => x = .bool true ∧ Hid (PX Z #[.int .i64 kd, .int .i64 nn, sv k, sv v] s r t q (stepM M ⟨kd, nn, k, v⟩) (stepM M ⟨kd, nn, k, v⟩) N1 N2 w0 wx))
  case first =>
    have HN := hidb num11_any
    obtain ⟨x0, x1, x2, x3⟩ := JX.out.cells
    have HJ : Hid (∀ m, PX Z #[.int .i64 kd, .int .i64 nn, sv k, sv v] s r t q M M N1 N2 w0 (W.drewN m)) := hidb fun m => JX.out.below (drewN_below W m)
    by_cases h0 : kd = 0
    · subst h0
      have HP : Hid (∀ m, Calls Tryd.prog 8 #[.pointer (some ⟨s, 0, none⟩), sv k, sv v] (W.drewN m) fun e w2 => e = .returned (.int .i64 (putE M k v)) ∧ (w2.cell? ⟨Z, 2, none⟩ = some (sv k) ∧ w2.cell? ⟨Z, 3, none⟩ = some (sv v)) ∧ Hid (Calls Tryd.prog 16 #[.pointer (some ⟨r, 0, none⟩), sv k, sv v] w2 fun e w3 => e = .returned (.int .i64 (putE M k v)) ∧ (w3.cell? ⟨Z, 2, none⟩ = some (sv k) ∧ w3.cell? ⟨Z, 3, none⟩ = some (sv v)) ∧ Hid (PX Z #[.int .i64 0, .int .i64 nn, sv k, sv v] s r t q (putS M k v) (putS M k v) N1 N2 w0 w3))) := hidb fun m => by
        refine (pj_put (HJ.out m) hM k v hk hv).mono ?_
        rintro e w2 ⟨e1, H2⟩
        obtain ⟨_, _, y2, y3⟩ := H2.out.cells
        refine ⟨e1, ⟨y2, y3⟩, hidb ((pj_rput H2.out hM k v hk hv).mono ?_)⟩
        rintro e w3 ⟨e2, H3⟩
        obtain ⟨_, _, z2, z3⟩ := H3.out.cells
        exact ⟨e2, ⟨z2, z3⟩, hidb H3.out⟩
      have HE : Hid (stepM M ⟨0, nn, k, v⟩ = putS M k v) := hidb (by simp [stepM])
      have hpb : 0 ≤ putE M k v ∧ putE M k v ≤ 45 := by
        unfold putE
        split
        · omega
        · split <;> omega
      generalize putE M k v = pe at *
      clear HJ JX hM ht hk hv
      go_wp2_with fail
      go_region_held3 (fun X => X.cell? ⟨Z, 2, none⟩ = some (sv k) ∧ X.cell? ⟨Z, 3, none⟩ = some (sv v)) (first | go_keep | exact ⟨y2, y3⟩ | exact ⟨z2, z3⟩ | exact ⟨x2, x3⟩) (first
        | (go_at_call 8; refine (HP.out _).mono ?_; clear HP; rintro e w2 ⟨rfl, ⟨y2, y3⟩, HP2⟩)
        | (go_at_call 14; refine (HN.out _ _).mono ?_; rintro e wn ⟨rfl, rfl⟩)
        | (go_at_call 16; refine HP2.out.mono ?_; clear HP2; rintro e w3 ⟨rfl, ⟨z2, z3⟩, HP3⟩))
      go_wp2_with fail
      go_meet
      case rel => exact ⟨by simp, by rw [HE.out]; exact HP3⟩
    · by_cases h1 : kd = 1
      · subst h1
        have HP : Hid (∀ m, Calls Tryd.prog 17 #[.pointer (some ⟨s, 0, none⟩), sv k] (W.drewN m) fun e w2 => e = .returned (.bool (getL M k).isSome) ∧ w2.cell? ⟨Z, 2, none⟩ = some (sv k) ∧ Hid (Calls Tryd.prog 18 #[.pointer (some ⟨r, 0, none⟩), sv k] w2 fun e w3 => e = .returned (.bool (getL M k).isSome) ∧ w3.cell? ⟨Z, 2, none⟩ = some (sv k) ∧ Hid (PX Z #[.int .i64 1, .int .i64 nn, sv k, sv v] s r t q (delL M k) (delL M k) N1 N2 w0 w3))) := hidb fun m => by
          refine (pj_del (HJ.out m) k).mono ?_
          rintro e w2 ⟨e1, H2⟩
          obtain ⟨_, _, y2, y3⟩ := H2.out.cells
          refine ⟨e1, y2, hidb ((pj_rdel H2.out hM k).mono ?_)⟩
          rintro e w3 ⟨e2, H3⟩
          obtain ⟨_, _, z2, z3⟩ := H3.out.cells
          exact ⟨e2, z2, hidb H3.out⟩
        have HE : Hid (stepM M ⟨1, nn, k, v⟩ = delL M k) := hidb (by simp [stepM])
        generalize (getL M k).isSome = gb at *
        clear HJ JX hM ht hk hv h0
        go_wp2_with fail
        go_region_held3 (fun X => X.cell? ⟨Z, 2, none⟩ = some (sv k)) (first | go_keep | exact y2 | exact z2 | exact x2) (first
          | (go_at_call 17; refine (HP.out _).mono ?_; clear HP; rintro e w2 ⟨rfl, y2, HP2⟩)
          | (go_at_call 18; refine HP2.out.mono ?_; clear HP2; rintro e w3 ⟨rfl, z2, HP3⟩))
        go_wp2_with fail
        go_meet
        case rel => exact ⟨by simp, by rw [HE.out]; exact HP3⟩
      · have HE : Hid (stepM M ⟨kd, nn, k, v⟩ = M) := hidb (by simp [stepM, h0, h1])
        have d0 : (kd == 0) = false := by simpa using h0
        have d1 : (kd == 1) = false := by simpa using h1
        by_cases h2 : kd = 2
        · subst h2
          have HG := hidb (pj_get JX.out k)
          have HR : Hid (∀ X, PX Z #[.int .i64 2, .int .i64 nn, sv k, sv v] s r t q M M N1 N2 w0 X → _) := hidb fun X j => pj_rget j hM k
          generalize (getL M k).getD [] = gv at *
          generalize (getL M k).isSome = gb at *
          clear HJ JX hM ht hk hv h0 h1 d0 d1
          go_wp2_with (first
            | (go_at_call 12; refine HG.out.mono ?_; clear HG; rintro e w1 ⟨rfl, J1⟩; obtain ⟨y0, y1, y2, y3⟩ := J1.out.cells)
            | (go_at_call 19; refine (HR.out _ J1.out).mono ?_; clear HR J1 y0 y1 y2 y3; rintro e w2 ⟨rfl, J2⟩)
            | fail)
          go_meet
          case rel => exact ⟨by simp, by rw [HE.out]; exact J2⟩
        · have d2 : (kd == 2) = false := by simpa using h2
          by_cases h3 : kd = 3
          · subst h3
            have HG := hidb (pj_next JX.out k)
            have HR : Hid (∀ X, PX Z #[.int .i64 3, .int .i64 nn, sv k, sv v] s r t q M M N1 N2 w0 X → _) := hidb fun X j => pj_rnext j hM k
            generalize (nextL M k).getD [] = gv at *
            generalize (nextL M k).isSome = gb at *
            clear HJ JX hM ht hk hv h0 h1 h2 d0 d1 d2
            go_wp2_with (first
              | (go_at_call 9; refine HG.out.mono ?_; clear HG; rintro e w1 ⟨rfl, J1⟩; obtain ⟨y0, y1, y2, y3⟩ := J1.out.cells)
              | (go_at_call 20; refine (HR.out _ J1.out).mono ?_; clear HR J1 y0 y1 y2 y3; rintro e w2 ⟨rfl, J2⟩)
              | fail)
            go_meet
            case rel => exact ⟨by simp, by rw [HE.out]; exact J2⟩
          · have d3 : (kd == 3) = false := by simpa using h3
            by_cases h4 : kd = 4
            · subst h4
              have HP : Hid (∀ m, Calls Tryd.prog 22 #[.pointer (some ⟨s, 0, none⟩), sv k, sv v, .int .i64 nn] (W.drewN m) fun e w1 => ∃ va n vc, e = .returned (.slice va n vc) ∧ (w1.cell? ⟨Z, 1, none⟩ = some (.int .i64 nn) ∧ w1.cell? ⟨Z, 2, none⟩ = some (sv k) ∧ w1.cell? ⟨Z, 3, none⟩ = some (sv v)) ∧
                  Hid (Calls Tryd.prog 23 #[.pointer (some ⟨r, 0, none⟩), sv k, sv v, .int .i64 nn] w1 fun e w2 => ∃ vb n2 vd, e = .returned (.slice vb n2 vd) ∧ (w2.cell? ⟨Z, 1, none⟩ = some (.int .i64 nn) ∧ w2.cell? ⟨Z, 2, none⟩ = some (sv k) ∧ w2.cell? ⟨Z, 3, none⟩ = some (sv v)) ∧
                  Hid (Calls Tryd.prog 21 #[.slice va n vc, .slice vb n2 vd] w2 fun e w3 => e = .returned (.bool true) ∧ (w3.cell? ⟨Z, 1, none⟩ = some (.int .i64 nn) ∧ w3.cell? ⟨Z, 2, none⟩ = some (sv k) ∧ w3.cell? ⟨Z, 3, none⟩ = some (sv v)) ∧ Hid (PX Z #[.int .i64 4, .int .i64 nn, sv k, sv v] s r t q M M N1 N2 w0 w3)))) := hidb fun m => pj_scanb (HJ.out m) hM k v nn
              clear HJ JX hM ht hk hv h0 h1 h2 h3 d0 d1 d2 d3
              go_wp2_with fail
              go_region_held3 (fun X => X.cell? ⟨Z, 1, none⟩ = some (.int .i64 nn) ∧ X.cell? ⟨Z, 2, none⟩ = some (sv k) ∧ X.cell? ⟨Z, 3, none⟩ = some (sv v)) (first | go_keep | exact ⟨y1, y2, y3⟩ | exact ⟨z1, z2, z3⟩ | exact ⟨u1, u2, u3⟩ | exact ⟨x1, x2, x3⟩) (first
                | (go_at_call 22; refine (HP.out _).mono ?_; clear HP; rintro e w2 ⟨va, n, vc, rfl, ⟨y1, y2, y3⟩, HP2⟩)
                | (go_at_call 23; refine HP2.out.mono ?_; clear HP2; rintro e w3 ⟨vb, n2, vd, rfl, ⟨z1, z2, z3⟩, HP3⟩)
                | (go_at_call 21; refine HP3.out.mono ?_; clear HP3; rintro e w4 ⟨rfl, ⟨u1, u2, u3⟩, HP4⟩))
              go_wp2_with fail
              go_meet
              case rel => exact ⟨by simp, by rw [HE.out]; exact HP4⟩
            · have d4 : (kd == 4) = false := by simpa using h4
              clear HJ hM ht hk hv h0 h1 h2 h3 h4
              go_wp2_with fail
              go_meet
              case rel => exact ⟨by simp, by rw [HE.out]; exact JX⟩
  case rest =>
    obtain ⟨rfl, HC⟩ := hcut
    clear JX
    have hMo := stepM_ok hM ⟨kd, nn, k, v⟩
    obtain ⟨M', hM'⟩ : ∃ M', M' = stepM M ⟨kd, nn, k, v⟩ := ⟨_, rfl⟩
    rw [← hM'] at hMo HC
    have HM' := hidb hM'
    clear hM'
    have HJ : Hid (∀ W, Below wc.heap.size wc W → PJ s r t q M' M' N1 N2 w0 W) := hidb fun W h => (HC.out.below h).1
    have HBy : Hid (∀ W, Below wc.heap.size wc W → Calls Tryd.prog 24 #[.pointer (some ⟨s, 0, none⟩)] W fun e w1 => ∃ v, e = .returned v ∧ Cq (stB M') w1 v ∧ Below W.heap.size W w1) := hidb fun W h => pj_sbytes (HJ.out W h) hMo
    have HRb : Hid (∀ W, Below wc.heap.size wc W → Calls Tryd.prog 25 #[.pointer (some ⟨r, 0, none⟩)] W fun e w1 => ∃ v, e = .returned v ∧ Cq (stB M') w1 v ∧ Below W.heap.size W w1) := hidb fun W h => pj_rbytes (HJ.out W h) hMo
    have HLn : Hid (∀ W, Below wc.heap.size wc W → Calls Tryd.prog 15 #[.pointer (some ⟨s, 0, none⟩)] W fun e w1 => e = .returned (.int .i64 (M'.length : Nat)) ∧ Below W.heap.size W w1) := hidb fun W h => pj_len (HJ.out W h)
    have HHa : Hid (∀ W, Below wc.heap.size wc W → Calls Tryd.prog 26 #[.pointer (some ⟨s, 0, none⟩)] W fun e w1 => e = .returned (.int .i64 (crc (stB M') : Nat)) ∧ Below W.heap.size W w1) := hidb fun W h => pj_hash (HJ.out W h) hMo ht
    have HRh : Hid (∀ W, Below wc.heap.size wc W → Calls Tryd.prog 27 #[.pointer (some ⟨r, 0, none⟩)] W fun e w1 => e = .returned (.int .i64 (crc (stB M') : Nat)) ∧ Below W.heap.size W w1) := hidb fun W h => pj_rhash (HJ.out W h) hMo
    obtain ⟨ca, cc, HCl⟩ : ∃ ca cc, Hid (∀ W, Below wc.heap.size wc W → W.cell? ⟨r, 0, none⟩ = some (.slice ca M'.length cc)) := by
      obtain ⟨v, k⟩ := HC.out.rf
      obtain ⟨ca, cc, rfl, _⟩ := k.form
      exact ⟨ca, cc, hidb fun W h => (k.below h).c⟩
    clear HC hMo hM ht hk hv
    generalize crc (stB M') = x at *
    generalize stB M' = XB at *
    obtain ⟨n, hn⟩ : ∃ n, n = M'.length := ⟨_, rfl⟩
    rw [← hn] at HLn HCl
    clear hn
    go_upto_region 17 with fail
    have hTab : ∃ T : Nat → Value, T 0 = .bool true ∧ T 1 = .bool true ∧ T 2 = .pointer (some ⟨s, 0, none⟩) ∧ T 3 = .int .i64 (n : Int) ∧ T 4 = .pointer (some ⟨r, 0, none⟩) ∧ T 5 = .pointer (some ⟨r, 0, none⟩) ∧ T 6 = .pointer (some ⟨r, 0, none⟩) ∧ T 7 = .slice ca n cc ∧ T 8 = .int .i64 (n : Int) ∧ T 9 = .bool true ∧ T 10 = .bool true ∧ T 11 = .bool true ∧ T 12 = .pointer (some ⟨s, 0, none⟩) ∧ T 13 = undef ∧ T 14 = sv XB ∧ T 15 = .pointer (some ⟨r, 0, none⟩) ∧ T 16 = undef ∧ T 17 = sv XB ∧ T 18 = .bool true ∧ T 19 = .bool true ∧ T 20 = .bool true ∧ T 21 = .pointer (some ⟨s, 0, none⟩) ∧ T 22 = .int .i64 (x : Int) ∧ T 23 = .pointer (some ⟨r, 0, none⟩) ∧ T 24 = .int .i64 (x : Int) ∧ T 25 = .bool true ∧ T 26 = .bool true ∧ T 27 = .bool true := ⟨fun i => match i with | 0 => .bool true | 1 => .bool true | 2 => .pointer (some ⟨s, 0, none⟩) | 3 => .int .i64 (n : Int) | 4 => .pointer (some ⟨r, 0, none⟩) | 5 => .pointer (some ⟨r, 0, none⟩) | 6 => .pointer (some ⟨r, 0, none⟩) | 7 => .slice ca n cc | 8 => .int .i64 (n : Int) | 9 => .bool true | 10 => .bool true | 11 => .bool true | 12 => .pointer (some ⟨s, 0, none⟩) | 13 => undef | 14 => sv XB | 15 => .pointer (some ⟨r, 0, none⟩) | 16 => undef | 17 => sv XB | 18 => .bool true | 19 => .bool true | 20 => .bool true | 21 => .pointer (some ⟨s, 0, none⟩) | 22 => .int .i64 (x : Int) | 23 => .pointer (some ⟨r, 0, none⟩) | 24 => .int .i64 (x : Int) | 25 => .bool true | 26 => .bool true | 27 => .bool true | _ => undef, rfl, rfl, rfl, rfl, rfl, rfl, rfl, rfl, rfl, rfl, rfl, rfl, rfl, rfl, rfl, rfl, rfl, rfl, rfl, rfl, rfl, rfl, rfl, rfl, rfl, rfl, rfl, rfl⟩
    obtain ⟨T, T0, T1, T2, T3, T4, T5, T6, T7, T8, T9, T10, T11, T12, T13, T14, T15, T16, T17, T18, T19, T20, T21, T22, T23, T24, T25, T26, T27⟩ := hTab
    refine wp_region_eachg (by kernel_rfl) 139 rfl (by kernel_rfl) (fun _ W => Below wc.heap.size wc W) (fun _ i v W => Pq T XB i v W) ?start ?each ?_
    case start => exact (Below.refl _ _).drew
    case each =>
      intro i o ho listed a W hE hnl haf
      have hi : i < 28 := (Array.getElem?_eq_some_iff.1 ho).1
      have t0 : a.tmps[0]?.getD undef = .pointer (some ⟨s, 0, none⟩) := hE.rest 0 (rest_of (by kernel_rfl))
      have t1 : a.tmps[1]?.getD undef = .pointer (some ⟨r, 0, none⟩) := hE.rest 1 (rest_of (by kernel_rfl))
      have t7 : a.tmps[7]?.getD undef = .bool true := hE.rest 7 (rest_of (by kernel_rfl))
      have hG := hE.glob
      match i, hi, ho, hnl, haf with
      | 0, _, ho, hnl, haf =>
        obtain rfl := Option.some.inj ho
        exact owesP_value (W' := _) rfl rfl (by simp [execOp, go_sem, t7]) (Pq.t (by decide) (by decide) T0.symm) hG (fun _ _ _ h => h)
      | 1, _, ho, hnl, haf =>
        obtain rfl := Option.some.inj ho
        have h0 : a.tmps[112]?.getD undef = .bool true := ((hE.vals 0 _ 112 rfl (haf ⟨0, .data⟩ (by simp) rfl) rfl).2 (by decide) (by decide)).trans T0
        exact owesP_value (W' := _) rfl rfl (by simp [execOp, go_sem, h0]) (Pq.t (by decide) (by decide) T1.symm) hG (fun _ _ _ h => h)
      | 2, _, ho, hnl, haf =>
        obtain rfl := Option.some.inj ho
        have hg : a.tmps[113]?.getD undef = .bool true := ((hE.vals 1 _ 113 rfl (haf ⟨1, .guard⟩ (by simp) rfl) rfl).2 (by decide) (by decide)).trans T1
        exact owesP_value (W' := _) rfl ((wanted_is rfl rfl hg).trans rfl) (by simp [execOp, go_sem, t0]) (Pq.t (by decide) (by decide) T2.symm) hG (fun _ _ _ h => h)
      | 3, _, ho, hnl, haf =>
        obtain rfl := Option.some.inj ho
        have hg : a.tmps[113]?.getD undef = .bool true := ((hE.vals 1 _ 113 rfl (haf ⟨1, .guard⟩ (by simp) rfl) rfl).2 (by decide) (by decide)).trans T1
        have h2 : a.tmps[114]?.getD undef = .pointer (some ⟨s, 0, none⟩) := ((hE.vals 2 _ 114 rfl (haf ⟨2, .data⟩ (by simp) rfl) rfl).2 (by decide) (by decide)).trans T2
        refine owesP_call rfl ((wanted_is rfl rfl hg).trans rfl) (R := _) (by simp [execOp, go_sem, h2]) (HLn.out W hG) fun e W' h => ?_
        obtain ⟨he, hb⟩ := h
        exact ⟨_, he, (Pq.t (by decide) (by decide) T3.symm), hG.trans (hb.mono hG.size), fun _ _ _ h => h.below hb⟩
      | 4, _, ho, hnl, haf =>
        obtain rfl := Option.some.inj ho
        have hg : a.tmps[113]?.getD undef = .bool true := ((hE.vals 1 _ 113 rfl (haf ⟨1, .guard⟩ (by simp) rfl) rfl).2 (by decide) (by decide)).trans T1
        exact owesP_value (W' := _) rfl ((wanted_is rfl rfl hg).trans rfl) (by simp [execOp, go_sem, t1]) (Pq.t (by decide) (by decide) T4.symm) hG (fun _ _ _ h => h)
      | 5, _, ho, hnl, haf =>
        obtain rfl := Option.some.inj ho
        have hg : a.tmps[113]?.getD undef = .bool true := ((hE.vals 1 _ 113 rfl (haf ⟨1, .guard⟩ (by simp) rfl) rfl).2 (by decide) (by decide)).trans T1
        have h4 : a.tmps[116]?.getD undef = .pointer (some ⟨r, 0, none⟩) := ((hE.vals 4 _ 116 rfl (haf ⟨4, .data⟩ (by simp) rfl) rfl).2 (by decide) (by decide)).trans T4
        exact owesP_value (W' := _) rfl ((wanted_is rfl rfl hg).trans rfl) (by simp [execOp, go_sem, h4]) (Pq.t (by decide) (by decide) T5.symm) hG (fun _ _ _ h => h)
      | 6, _, ho, hnl, haf =>
        obtain rfl := Option.some.inj ho
        have hg : a.tmps[113]?.getD undef = .bool true := ((hE.vals 1 _ 113 rfl (haf ⟨1, .guard⟩ (by simp) rfl) rfl).2 (by decide) (by decide)).trans T1
        have h5 : a.tmps[117]?.getD undef = .pointer (some ⟨r, 0, none⟩) := ((hE.vals 5 _ 117 rfl (haf ⟨5, .data⟩ (by simp) rfl) rfl).2 (by decide) (by decide)).trans T5
        exact owesP_value (W' := _) rfl ((wanted_is rfl rfl hg).trans rfl) (by simp [execOp, go_sem, h5]) (Pq.t (by decide) (by decide) T6.symm) hG (fun _ _ _ h => h)
      | 7, _, ho, hnl, haf =>
        obtain rfl := Option.some.inj ho
        have hg : a.tmps[113]?.getD undef = .bool true := ((hE.vals 1 _ 113 rfl (haf ⟨1, .guard⟩ (by simp) rfl) rfl).2 (by decide) (by decide)).trans T1
        have h6 : a.tmps[118]?.getD undef = .pointer (some ⟨r, 0, none⟩) := ((hE.vals 6 _ 118 rfl (haf ⟨6, .data⟩ (by simp) rfl) rfl).2 (by decide) (by decide)).trans T6
        have hcl := HCl.out W hG
        exact owesP_value (W' := _) rfl ((wanted_is rfl rfl hg).trans rfl) (by simp [execOp, go_sem, h6, hcl]) (Pq.t (by decide) (by decide) T7.symm) hG (fun _ _ _ h => h)
      | 8, _, ho, hnl, haf =>
        obtain rfl := Option.some.inj ho
        have hg : a.tmps[113]?.getD undef = .bool true := ((hE.vals 1 _ 113 rfl (haf ⟨1, .guard⟩ (by simp) rfl) rfl).2 (by decide) (by decide)).trans T1
        have h7 : a.tmps[119]?.getD undef = .slice ca n cc := ((hE.vals 7 _ 119 rfl (haf ⟨7, .data⟩ (by simp) rfl) rfl).2 (by decide) (by decide)).trans T7
        exact owesP_value (W' := _) rfl ((wanted_is rfl rfl hg).trans rfl) (by simp [execOp, go_sem, h7]) (Pq.t (by decide) (by decide) T8.symm) hG (fun _ _ _ h => h)
      | 9, _, ho, hnl, haf =>
        obtain rfl := Option.some.inj ho
        have hg : a.tmps[113]?.getD undef = .bool true := ((hE.vals 1 _ 113 rfl (haf ⟨1, .guard⟩ (by simp) rfl) rfl).2 (by decide) (by decide)).trans T1
        have h3 : a.tmps[115]?.getD undef = .int .i64 (n : Int) := ((hE.vals 3 _ 115 rfl (haf ⟨3, .data⟩ (by simp) rfl) rfl).2 (by decide) (by decide)).trans T3
        have h8 : a.tmps[120]?.getD undef = .int .i64 (n : Int) := ((hE.vals 8 _ 120 rfl (haf ⟨8, .data⟩ (by simp) rfl) rfl).2 (by decide) (by decide)).trans T8
        exact owesP_value (W' := _) rfl ((wanted_is rfl rfl hg).trans rfl) (by simp [execOp, go_sem, h3, h8]) (Pq.t (by decide) (by decide) T9.symm) hG (fun _ _ _ h => h)
      | 10, _, ho, hnl, haf =>
        obtain rfl := Option.some.inj ho
        have h1 : a.tmps[113]?.getD undef = .bool true := ((hE.vals 1 _ 113 rfl (haf ⟨1, .data⟩ (by simp) rfl) rfl).2 (by decide) (by decide)).trans T1
        have h9 : a.tmps[121]?.getD undef = .bool true := ((hE.vals 9 _ 121 rfl (haf ⟨9, .data⟩ (by simp) rfl) rfl).2 (by decide) (by decide)).trans T9
        exact owesP_value (W' := _) rfl rfl (by simp [execOp, go_sem, h1, h9]) (Pq.t (by decide) (by decide) T10.symm) hG (fun _ _ _ h => h)
      | 11, _, ho, hnl, haf =>
        obtain rfl := Option.some.inj ho
        have h10 : a.tmps[122]?.getD undef = .bool true := ((hE.vals 10 _ 122 rfl (haf ⟨10, .data⟩ (by simp) rfl) rfl).2 (by decide) (by decide)).trans T10
        exact owesP_value (W' := _) rfl rfl (by simp [execOp, go_sem, h10]) (Pq.t (by decide) (by decide) T11.symm) hG (fun _ _ _ h => h)
      | 12, _, ho, hnl, haf =>
        obtain rfl := Option.some.inj ho
        have hg : a.tmps[123]?.getD undef = .bool true := ((hE.vals 11 _ 123 rfl (haf ⟨11, .guard⟩ (by simp) rfl) rfl).2 (by decide) (by decide)).trans T11
        exact owesP_value (W' := _) rfl ((wanted_is rfl rfl hg).trans rfl) (by simp [execOp, go_sem, t0]) (Pq.t (by decide) (by decide) T12.symm) hG (fun _ _ _ h => h)
      | 13, _, ho, hnl, haf =>
        obtain rfl := Option.some.inj ho
        have hg : a.tmps[123]?.getD undef = .bool true := ((hE.vals 11 _ 123 rfl (haf ⟨11, .guard⟩ (by simp) rfl) rfl).2 (by decide) (by decide)).trans T11
        have h12 : a.tmps[124]?.getD undef = .pointer (some ⟨s, 0, none⟩) := ((hE.vals 12 _ 124 rfl (haf ⟨12, .data⟩ (by simp) rfl) rfl).2 (by decide) (by decide)).trans T12
        refine owesP_call rfl ((wanted_is rfl rfl hg).trans rfl) (R := _) (by simp [execOp, go_sem, h12]) (HBy.out W hG) fun e W' h => ?_
        obtain ⟨v, he, hv, hb⟩ := h
        exact ⟨v, he, Pq.c (by decide) hv, hG.trans (hb.mono hG.size), fun _ _ _ h => h.below hb⟩
      | 14, _, ho, hnl, haf =>
        obtain rfl := Option.some.inj ho
        have hg : a.tmps[123]?.getD undef = .bool true := ((hE.vals 11 _ 123 rfl (haf ⟨11, .guard⟩ (by simp) rfl) rfl).2 (by decide) (by decide)).trans T11
        obtain ⟨ba, bn, bc, h13, cv⟩ := (hE.vals 13 _ 125 rfl (haf ⟨13, .data⟩ (by simp) rfl) rfl).1 (by decide)
        replace cv := cv.run
        exact owesP_value (W' := _) rfl ((wanted_is rfl rfl hg).trans rfl) (by simp [execOp, go_sem, cv, h13]) (Pq.t (by decide) (by decide) T14.symm) hG (fun _ _ _ h => h)
      | 15, _, ho, hnl, haf =>
        obtain rfl := Option.some.inj ho
        have hg : a.tmps[123]?.getD undef = .bool true := ((hE.vals 11 _ 123 rfl (haf ⟨11, .guard⟩ (by simp) rfl) rfl).2 (by decide) (by decide)).trans T11
        exact owesP_value (W' := _) rfl ((wanted_is rfl rfl hg).trans rfl) (by simp [execOp, go_sem, t1]) (Pq.t (by decide) (by decide) T15.symm) hG (fun _ _ _ h => h)
      | 16, _, ho, hnl, haf =>
        obtain rfl := Option.some.inj ho
        have hg : a.tmps[123]?.getD undef = .bool true := ((hE.vals 11 _ 123 rfl (haf ⟨11, .guard⟩ (by simp) rfl) rfl).2 (by decide) (by decide)).trans T11
        have h15 : a.tmps[127]?.getD undef = .pointer (some ⟨r, 0, none⟩) := ((hE.vals 15 _ 127 rfl (haf ⟨15, .data⟩ (by simp) rfl) rfl).2 (by decide) (by decide)).trans T15
        refine owesP_call rfl ((wanted_is rfl rfl hg).trans rfl) (R := _) (by simp [execOp, go_sem, h15]) (HRb.out W hG) fun e W' h => ?_
        obtain ⟨v, he, hv, hb⟩ := h
        exact ⟨v, he, Pq.c (by decide) hv, hG.trans (hb.mono hG.size), fun _ _ _ h => h.below hb⟩
      | 17, _, ho, hnl, haf =>
        obtain rfl := Option.some.inj ho
        have hg : a.tmps[123]?.getD undef = .bool true := ((hE.vals 11 _ 123 rfl (haf ⟨11, .guard⟩ (by simp) rfl) rfl).2 (by decide) (by decide)).trans T11
        obtain ⟨ba, bn, bc, h16, cv⟩ := (hE.vals 16 _ 128 rfl (haf ⟨16, .data⟩ (by simp) rfl) rfl).1 (by decide)
        replace cv := cv.run
        exact owesP_value (W' := _) rfl ((wanted_is rfl rfl hg).trans rfl) (by simp [execOp, go_sem, cv, h16]) (Pq.t (by decide) (by decide) T17.symm) hG (fun _ _ _ h => h)
      | 18, _, ho, hnl, haf =>
        obtain rfl := Option.some.inj ho
        have hg : a.tmps[123]?.getD undef = .bool true := ((hE.vals 11 _ 123 rfl (haf ⟨11, .guard⟩ (by simp) rfl) rfl).2 (by decide) (by decide)).trans T11
        have h14 : a.tmps[126]?.getD undef = sv XB := ((hE.vals 14 _ 126 rfl (haf ⟨14, .data⟩ (by simp) rfl) rfl).2 (by decide) (by decide)).trans T14
        have h17 : a.tmps[129]?.getD undef = sv XB := ((hE.vals 17 _ 129 rfl (haf ⟨17, .data⟩ (by simp) rfl) rfl).2 (by decide) (by decide)).trans T17
        exact owesP_value (W' := _) rfl ((wanted_is rfl rfl hg).trans rfl) (by simp [execOp, go_sem, h14, h17]) (Pq.t (by decide) (by decide) T18.symm) hG (fun _ _ _ h => h)
      | 19, _, ho, hnl, haf =>
        obtain rfl := Option.some.inj ho
        have h11 : a.tmps[123]?.getD undef = .bool true := ((hE.vals 11 _ 123 rfl (haf ⟨11, .data⟩ (by simp) rfl) rfl).2 (by decide) (by decide)).trans T11
        have h18 : a.tmps[130]?.getD undef = .bool true := ((hE.vals 18 _ 130 rfl (haf ⟨18, .data⟩ (by simp) rfl) rfl).2 (by decide) (by decide)).trans T18
        exact owesP_value (W' := _) rfl rfl (by simp [execOp, go_sem, h11, h18]) (Pq.t (by decide) (by decide) T19.symm) hG (fun _ _ _ h => h)
      | 20, _, ho, hnl, haf =>
        obtain rfl := Option.some.inj ho
        have h19 : a.tmps[131]?.getD undef = .bool true := ((hE.vals 19 _ 131 rfl (haf ⟨19, .data⟩ (by simp) rfl) rfl).2 (by decide) (by decide)).trans T19
        exact owesP_value (W' := _) rfl rfl (by simp [execOp, go_sem, h19]) (Pq.t (by decide) (by decide) T20.symm) hG (fun _ _ _ h => h)
      | 21, _, ho, hnl, haf =>
        obtain rfl := Option.some.inj ho
        have hg : a.tmps[132]?.getD undef = .bool true := ((hE.vals 20 _ 132 rfl (haf ⟨20, .guard⟩ (by simp) rfl) rfl).2 (by decide) (by decide)).trans T20
        exact owesP_value (W' := _) rfl ((wanted_is rfl rfl hg).trans rfl) (by simp [execOp, go_sem, t0]) (Pq.t (by decide) (by decide) T21.symm) hG (fun _ _ _ h => h)
      | 22, _, ho, hnl, haf =>
        obtain rfl := Option.some.inj ho
        have hg : a.tmps[132]?.getD undef = .bool true := ((hE.vals 20 _ 132 rfl (haf ⟨20, .guard⟩ (by simp) rfl) rfl).2 (by decide) (by decide)).trans T20
        have h21 : a.tmps[133]?.getD undef = .pointer (some ⟨s, 0, none⟩) := ((hE.vals 21 _ 133 rfl (haf ⟨21, .data⟩ (by simp) rfl) rfl).2 (by decide) (by decide)).trans T21
        refine owesP_call rfl ((wanted_is rfl rfl hg).trans rfl) (R := _) (by simp [execOp, go_sem, h21]) (HHa.out W hG) fun e W' h => ?_
        obtain ⟨he, hb⟩ := h
        exact ⟨_, he, (Pq.t (by decide) (by decide) T22.symm), hG.trans (hb.mono hG.size), fun _ _ _ h => h.below hb⟩
      | 23, _, ho, hnl, haf =>
        obtain rfl := Option.some.inj ho
        have hg : a.tmps[132]?.getD undef = .bool true := ((hE.vals 20 _ 132 rfl (haf ⟨20, .guard⟩ (by simp) rfl) rfl).2 (by decide) (by decide)).trans T20
        exact owesP_value (W' := _) rfl ((wanted_is rfl rfl hg).trans rfl) (by simp [execOp, go_sem, t1]) (Pq.t (by decide) (by decide) T23.symm) hG (fun _ _ _ h => h)
      | 24, _, ho, hnl, haf =>
        obtain rfl := Option.some.inj ho
        have hg : a.tmps[132]?.getD undef = .bool true := ((hE.vals 20 _ 132 rfl (haf ⟨20, .guard⟩ (by simp) rfl) rfl).2 (by decide) (by decide)).trans T20
        have h23 : a.tmps[135]?.getD undef = .pointer (some ⟨r, 0, none⟩) := ((hE.vals 23 _ 135 rfl (haf ⟨23, .data⟩ (by simp) rfl) rfl).2 (by decide) (by decide)).trans T23
        refine owesP_call rfl ((wanted_is rfl rfl hg).trans rfl) (R := _) (by simp [execOp, go_sem, h23]) (HRh.out W hG) fun e W' h => ?_
        obtain ⟨he, hb⟩ := h
        exact ⟨_, he, (Pq.t (by decide) (by decide) T24.symm), hG.trans (hb.mono hG.size), fun _ _ _ h => h.below hb⟩
      | 25, _, ho, hnl, haf =>
        obtain rfl := Option.some.inj ho
        have hg : a.tmps[132]?.getD undef = .bool true := ((hE.vals 20 _ 132 rfl (haf ⟨20, .guard⟩ (by simp) rfl) rfl).2 (by decide) (by decide)).trans T20
        have h22 : a.tmps[134]?.getD undef = .int .i64 (x : Int) := ((hE.vals 22 _ 134 rfl (haf ⟨22, .data⟩ (by simp) rfl) rfl).2 (by decide) (by decide)).trans T22
        have h24 : a.tmps[136]?.getD undef = .int .i64 (x : Int) := ((hE.vals 24 _ 136 rfl (haf ⟨24, .data⟩ (by simp) rfl) rfl).2 (by decide) (by decide)).trans T24
        exact owesP_value (W' := _) rfl ((wanted_is rfl rfl hg).trans rfl) (by simp [execOp, go_sem, h22, h24]) (Pq.t (by decide) (by decide) T25.symm) hG (fun _ _ _ h => h)
      | 26, _, ho, hnl, haf =>
        obtain rfl := Option.some.inj ho
        have h20 : a.tmps[132]?.getD undef = .bool true := ((hE.vals 20 _ 132 rfl (haf ⟨20, .data⟩ (by simp) rfl) rfl).2 (by decide) (by decide)).trans T20
        have h25 : a.tmps[137]?.getD undef = .bool true := ((hE.vals 25 _ 137 rfl (haf ⟨25, .data⟩ (by simp) rfl) rfl).2 (by decide) (by decide)).trans T25
        exact owesP_value (W' := _) rfl rfl (by simp [execOp, go_sem, h20, h25]) (Pq.t (by decide) (by decide) T26.symm) hG (fun _ _ _ h => h)
      | 27, _, ho, hnl, haf =>
        obtain rfl := Option.some.inj ho
        have h26 : a.tmps[138]?.getD undef = .bool true := ((hE.vals 26 _ 138 rfl (haf ⟨26, .data⟩ (by simp) rfl) rfl).2 (by decide) (by decide)).trans T26
        exact owesP_value (W' := _) rfl rfl (by simp [execOp, go_sem, h26]) (Pq.t (by decide) (by decide) T27.symm) hG (fun _ _ _ h => h)
    intro a W hE
    have h6 : a.tmps[6]?.getD undef = .bool true := ((hE.vals 27 _ 6 rfl (by rfl) rfl).2 (by decide) (by decide)).trans T27
    have hF : Below wc.heap.size wc W := hE.glob
    have hsz := hE.tsize
    have hdf := hE.defers
    obtain ⟨tm, df⟩ := a
    simp only at hsz hdf h6
    subst hdf
    have HR := hidb (HJ.out W hF)
    clear hE hF HJ HBy HRb HLn HHa HRh HCl
    clear T0 T1 T2 T3 T4 T5 T6 T7 T8 T9 T10 T11 T12 T13 T14 T15 T16 T17 T18 T19 T20 T21 T22 T23 T24 T25 T26 T27
    go_wp2_with fail
    refine bodyPost_ret (v := .bool true) (results_tmpK rfl _ _ _ _ h6) rfl ⟨rfl, ?_⟩
    rw [← HM'.out]
    exact HR
end Go.Proofs.YtcjakgogdbfagaaDoor
