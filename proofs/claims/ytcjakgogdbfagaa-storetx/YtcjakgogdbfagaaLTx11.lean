/- Layer 11: the law StoreTx. -/
import Derived.Test.YtcjakgogdbfagaaKZp
import Derived.Deep.RegionHeld3
import Derived.Deep.CutBlock
namespace Go.Proofs.Ytcjakgogdbfagaa
open Go.RowKit
/-- Both sides, told by the same pairs. -/
def TK (s x q r mb : Nat) (M N : Kvs) (d : Nat) (w0 w : World) : Prop := AX s x M N d w0 w ∧ ∃ v v2, TD w0.heap.size q r mb v v2 M N w
section
variable {s x q r mb : Nat} {M N : Kvs} {d : Nat} {w0 w w' : World}
theorem TK.below (j : TK s x q r mb M N d w0 w) (k : Below w.heap.size w w') : TK s x q r mb M N d w0 w' := by
  obtain ⟨h1, ⟨v, v2, t⟩⟩ := j
  exact ⟨h1.below k, ⟨v, v2, t.tx.below k, t.r1.below k, t.r2.below k, t.lo, t.l1, t.l2, t.ne, t.ap⟩⟩
theorem tk_begin (h : FJ s r M M w0 w) : Calls Try.prog 5 #[.pointer (some ⟨s, 0, none⟩)] w fun e w1 => ∃ x, e = .returned (.pointer (some ⟨x, 0, none⟩)) ∧ Hid (AX s x M M 0 w0 w1 ∧ FJ s r M M w0 w1) := by
  have hj := h
  obtain ⟨tb, g, v, h1, _, h3, l1, l2, l3, _⟩ := h
  refine (begin_i s tb g M w h1).mono ?_
  rintro e w1 ⟨xb, rfl, H⟩
  obtain ⟨b, e1, e2, e3, q1, q2, q3⟩ := H.out
  have hs := h3.size
  refine ⟨xb, rfl, hidb ⟨⟨b, e1, q1, fun i hi => ?_, l1, h3.trans (q3.mono hs)⟩, hj.below q3⟩⟩
  rcases q2 i hi with e | e | e <;> omega
theorem tk_rbegin (h : AX s x M M 0 w0 w) (hj : FJ s r M M w0 w) (hM : MOk M) : Calls Try.prog 7 #[.pointer (some ⟨r, 0, none⟩)] w fun e w1 => ∃ q mb, e = .returned (.pointer (some ⟨q, 0, none⟩)) ∧ Hid (TK s x q r mb M M 0 w0 w1) := by
  obtain ⟨tb, g, v, _, h2, h3, _, _, _, l4, l5⟩ := hj
  have hl := hM.len
  refine (rbegin11 r v M w h2 (by omega)).mono ?_
  rintro e w1 ⟨q, mb, rfl, H⟩
  obtain ⟨t1, ⟨v2, n1, n2, n3, n4⟩, t3⟩ := H.out
  have hs := h3.size
  have hr := heap_ltb h2.box
  refine ⟨q, mb, rfl, hidb ⟨h.below n4, v, v2, t1, h2.below n4, n1, ⟨by omega, l4, by omega⟩, l5, fun i e => by have := n3 i e; omega, by omega, fun i e1 e2 => ?_⟩⟩
  have := n3 i e2
  obtain ⟨cs, hc⟩ := row_block h2.row e1
  have := heap_ltb hc
  omega
end
/-- What a call leaves: the store, the transaction. -/
def txM (M N : Kvs) (o : Opn) : Kvs := if o.kd = 0 ∨ o.kd = 1 ∨ o.kd = 2 ∨ o.kd = 3 then M else N
def txN (N : Kvs) (o : Opn) : Kvs := if o.kd = 0 then putS N o.k o.v else if o.kd = 1 then wipeS N o.k else N
theorem txM_ok {M N : Kvs} (hM : MOk M) (hN : MOk N) (o : Opn) : MOk (txM M N o) := by
  unfold txM
  split
  · exact hM
  · exact hN
theorem txN_ok {N : Kvs} (hN : MOk N) (o : Opn) : MOk (txN N o) := by
  unfold txN
  split
  · exact hN.put _ _
  · split
    · exact hN.wipe _
    · exact hN
set_option maxRecDepth 100000 in
set_option maxHeartbeats 4000000 in
theorem storeTx_any (L1 L2 : List Opn) (a1 a2 : Option Addr) (n1 n2 k1 k2 : Nat) (w : World) (hn1 : n1 = L1.length) (hn2 : n2 = L2.length) (hA1 : OpsAt w a1 L1) (hA2 : OpsAt w a2 L2) (ok1 : ∀ x ∈ L1, x.ok) (ok2 : ∀ x ∈ L2, x.ok) (hl1 : n1 ≤ 9223372036854775) (hl2 : n2 * 48 ≤ 140737488351232) :
    Calls Try.prog 3 #[.slice a1 n1 k1, .slice a2 n2 k2] w fun e w' => e = .returned (.bool true) ∧ Below w.heap.size w w' := by
  have HF := hidb (filled_any L1 a1 n1 k1 w hn1 hA1 ok1 hl1)
  have HKn := hidb knows11_any
  have hMO := fill_ok (L1.take 700)
  generalize fillL (L1.take 700) = M0 at HF hMO
  have HM0 := hidb hMO
  have H2 := hidb hn2
  have HA := hidb hA2
  have HO := hidb ok2
  clear hn1 hn2 hA1 hA2 ok1 ok2 hMO hl1
  go_enter Try.func3, Try.ntmps3
  go_wp2_with (first
    | (go_at_call 4; refine HF.out.mono ?_; clear HF; rintro e w1 ⟨s, r, rfl, J1⟩; have HB := hidb (tk_begin J1.out); clear J1)
    | (go_at_call 5; refine HB.out.mono ?_; clear HB; rintro e w2 ⟨x, rfl, J2⟩)
    | (go_at_call 6; refine (HKn.out _).mono ?_; clear HKn; rintro e w3 ⟨rfl, hb3⟩; have HRb := hidb (tk_rbegin (J2.out.1.below hb3) (J2.out.2.below hb3) HM0.out); clear J2 hb3)
    | (go_at_call 7; refine HRb.out.mono ?_; clear HRb; rintro e w4 ⟨q, mb, rfl, J4⟩)
    | fail)
  go_loopw [9] (fun iv wr => ∃ i : Nat, iv = .int .i64 i ∧ i ≤ n2 ∧ Hid (∃ M N d, TK s x q r mb M N d w wr ∧ MOk M ∧ MOk N ∧ d ≤ i)) (fun iv _ => n2 - (intOf iv).toNat)
  case atStart => exact ⟨0, rfl, Nat.zero_le _, hidb ⟨M0, M0, 0, J4.out, HM0.out, HM0.out, Nat.le_refl _⟩⟩
  case round =>
    obtain ⟨i, rfl, hi, HI⟩ := hrel
    clear J4
    by_cases hlt : i < n2
    · have hil : i < L2.length := by rw [← H2.out]; exact hlt
      obtain ⟨M, N, d, hT, hM, hN, hd⟩ := HI.out
      have HT := hidb hT
      have hbw := hT.1.bel
      obtain ⟨b2, f2, ea2, hb2, C2⟩ : ∃ b off, a2 = some ⟨b, off, none⟩ ∧ b < w.heap.size ∧ _ := by
        rcases HA.out with h | h
        · rw [h] at hil; cases hil
        · exact h
      obtain ⟨e0, e1, e2, e3⟩ := C2 i hil
      have hox := HO.out L2[i] (List.getElem_mem hil)
      have c0 := (hbw.cell (p := ⟨b2, f2 + i * 4, none⟩) hb2).trans e0
      have c1 := (hbw.cell (p := ⟨b2, f2 + i * 4 + 1, none⟩) hb2).trans e1
      have c2 := (hbw.cell (p := ⟨b2, f2 + i * 4 + 2, none⟩) hb2).trans e2
      have c3 := (hbw.cell (p := ⟨b2, f2 + i * 4 + 3, none⟩) hb2).trans e3
      rw [ea2]
      generalize L2[i] = o at *
      obtain ⟨kd, nn, k, v⟩ := o
      simp only at c0 c1 c2 c3
      have hk : k.length ≤ 9223372036854775807 := hox.2.2.1
      have hv : v.length ≤ 9223372036854775807 := hox.2.2.2
      clear HI hT C2 e0 e1 e2 e3 hox hbw hil
      go_upto_block 2 with fail
      obtain ⟨Z, hZ⟩ : ∃ Z, Z = wr.heap.size := ⟨_, rfl⟩
      obtain ⟨W, hW⟩ : ∃ W, W = wr.alloc (.cells #[.int .i64 kd, .int .i64 nn, .string ⟨k.toArray⟩, .string ⟨v.toArray⟩] 33) := ⟨_, rfl⟩
      have JX : Hid (TJ Z #[.int .i64 kd, .int .i64 nn, sv k, sv v] s x q r mb M N M N d w W) := hidb (by
        have hj := HT.out.below (w' := W) (by rw [hW]; exact (Below.refl _ wr).alloc (Nat.le_refl _) _)
        exact ⟨hj.1, hj.2, by rw [hW, hZ]; exact heap_alloc_new wr _⟩)
      rw [← hZ, ← hW]
      clear hZ hW c0 c1 c2 c3
      go_cut [11, 12, 13, 14, 15, 16, 17, 18, 19] from 51 to 141 (fun y _ _ _ _ _ _ _ _ wx => y = .bool true ∧ Hid (∃ d', TJ Z #[.int .i64 kd, .int .i64 nn, sv k, sv v] s x q r mb (txM M N ⟨kd, nn, k, v⟩) (txN N ⟨kd, nn, k, v⟩) (txM M N ⟨kd, nn, k, v⟩) (txN N ⟨kd, nn, k, v⟩) d' w wx ∧ d' ≤ d + 1))
      case first =>
        have HNm := hidb num11_any
        obtain ⟨⟨x0, x1, x2, x3⟩, x4⟩ := JX.out.cells
        have HJ : Hid (∀ m, TJ Z #[.int .i64 kd, .int .i64 nn, sv k, sv v] s x q r mb M N M N d w (W.drewN m)) := hidb fun m => JX.out.below (drewN_below W m)
        have hd46 : (d + 2000) * 46 ≤ 140737488355328 := by omega
        by_cases h0 : kd = 0
        · subst h0
          have HE1 : Hid (txM M N ⟨0, nn, k, v⟩ = M) := hidb (by simp [txM])
          have HE2 : Hid (txN N ⟨0, nn, k, v⟩ = putS N k v) := hidb (by simp [txN])
          have HP : Hid (∀ m, Calls Try.prog 9 #[.pointer (some ⟨x, 0, none⟩), sv k, sv v] (W.drewN m) fun e w2 => e = .returned (.int .i64 (putE N k v)) ∧ (w2.cell? ⟨Z, 2, none⟩ = some (sv k) ∧ w2.cell? ⟨Z, 3, none⟩ = some (sv v) ∧ w2.cell? ⟨q, 1, none⟩ = some (.pointer (some ⟨mb, 0, none⟩))) ∧ Hid (Calls Try.prog 10 #[.pointer (some ⟨mb, 0, none⟩), sv k, sv v] w2 fun e w3 => e = .returned (.int .i64 (putE N k v)) ∧ (w3.cell? ⟨Z, 2, none⟩ = some (sv k) ∧ w3.cell? ⟨Z, 3, none⟩ = some (sv v) ∧ w3.cell? ⟨q, 1, none⟩ = some (.pointer (some ⟨mb, 0, none⟩))) ∧ Hid (TJ Z #[.int .i64 0, .int .i64 nn, sv k, sv v] s x q r mb M (putS N k v) M (putS N k v) d w w3))) := hidb fun m => by
            refine (tj_save (HJ.out m) hM hN k v hk hv).mono ?_
            rintro e w2 ⟨e1, H⟩
            obtain ⟨⟨_, _, y2, y3⟩, y4⟩ := H.out.cells
            refine ⟨e1, ⟨y2, y3, y4⟩, hidb ((tj_rput H.out hN k v hk hv).mono ?_)⟩
            rintro e w3 ⟨e2, H3⟩
            obtain ⟨⟨_, _, z2, z3⟩, z4⟩ := H3.out.cells
            exact ⟨e2, ⟨z2, z3, z4⟩, hidb H3.out⟩
          have hpb : 0 ≤ putE N k v ∧ putE N k v ≤ 45 := by
            unfold putE
            split
            · omega
            · split <;> omega
          generalize putE N k v = pe at *
          clear HJ JX hM hN hk hv HT hd46
          go_wp2_with fail
          go_region_held3 (fun X => X.cell? ⟨Z, 2, none⟩ = some (sv k) ∧ X.cell? ⟨Z, 3, none⟩ = some (sv v) ∧ X.cell? ⟨q, 1, none⟩ = some (.pointer (some ⟨mb, 0, none⟩))) (first | go_keep | exact ⟨y2, y3, y4⟩ | exact ⟨z2, z3, z4⟩ | exact ⟨x2, x3, x4⟩) (first
            | (go_at_call 9; refine (HP.out _).mono ?_; clear HP; rintro e w5 ⟨rfl, ⟨y2, y3, y4⟩, HP2⟩)
            | (go_at_call 8; refine (HNm.out _ _).mono ?_; rintro e wn ⟨rfl, rfl⟩)
            | (go_at_call 10; refine HP2.out.mono ?_; clear HP2; rintro e w6 ⟨rfl, ⟨z2, z3, z4⟩, HP3⟩))
          go_wp2_with fail
          go_meet
          case rel => exact ⟨by simp, hidb ⟨d, by rw [HE1.out, HE2.out]; exact HP3.out, Nat.le_succ _⟩⟩
        · by_cases h1 : kd = 1
          · subst h1
            have HE1 : Hid (txM M N ⟨1, nn, k, v⟩ = M) := hidb (by simp [txM])
            have HE2 : Hid (txN N ⟨1, nn, k, v⟩ = wipeS N k) := hidb (by simp [txN])
            have HP : Hid (∀ m, Calls Try.prog 11 #[.pointer (some ⟨x, 0, none⟩), sv k] (W.drewN m) fun e w2 => e = .returned (.int .i64 (wipeE k)) ∧ w2.cell? ⟨Z, 2, none⟩ = some (sv k) ∧ Hid (Calls Try.prog 12 #[.pointer (some ⟨q, 0, none⟩), sv k] w2 fun e w3 => e = .returned (.int .i64 (wipeE k)) ∧ w3.cell? ⟨Z, 2, none⟩ = some (sv k) ∧ Hid (TJ Z #[.int .i64 1, .int .i64 nn, sv k, sv v] s x q r mb M (wipeS N k) M (wipeS N k) (d + 1) w w3))) := hidb fun m => by
              refine (tj_wipe (HJ.out m) hM hN k hk (by omega)).mono ?_
              rintro e w2 ⟨e1, H⟩
              obtain ⟨⟨_, _, y2, _⟩, _⟩ := H.out.cells
              refine ⟨e1, y2, hidb ((tj_rwipe H.out hN k hk).mono ?_)⟩
              rintro e w3 ⟨e2, H3⟩
              obtain ⟨⟨_, _, z2, _⟩, _⟩ := H3.out.cells
              exact ⟨e2, z2, hidb H3.out⟩
            generalize wipeE k = pe at *
            clear HJ JX hM hN hk hv h0 HT hd46
            go_wp2_with fail
            go_region_held3 (fun X => X.cell? ⟨Z, 2, none⟩ = some (sv k)) (first | go_keep | exact y2 | exact z2 | exact x2) (first
              | (go_at_call 11; refine (HP.out _).mono ?_; clear HP; rintro e w5 ⟨rfl, y2, HP2⟩)
              | (go_at_call 8; refine (HNm.out _ _).mono ?_; rintro e wn ⟨rfl, rfl⟩)
              | (go_at_call 12; refine HP2.out.mono ?_; clear HP2; rintro e w6 ⟨rfl, z2, HP3⟩))
            go_wp2_with fail
            go_meet
            case rel => exact ⟨by simp, hidb ⟨d + 1, by rw [HE1.out, HE2.out]; exact HP3.out, Nat.le_refl _⟩⟩
          · have HE2 : Hid (txN N ⟨kd, nn, k, v⟩ = N) := hidb (by simp [txN, h0, h1])
            have d0 : (kd == 0) = false := by simpa using h0
            have d1 : (kd == 1) = false := by simpa using h1
            by_cases h2 : kd = 2
            · subst h2
              have HE1 : Hid (txM M N ⟨2, nn, k, v⟩ = M) := hidb (by simp [txM])
              have HG : Hid (Calls Try.prog 13 #[.pointer (some ⟨x, 0, none⟩), sv k] W fun e w2 => e = .returned (.tuple #[sv ((getL N k).getD []), .bool (getL N k).isSome]) ∧ (w2.cell? ⟨Z, 2, none⟩ = some (sv k) ∧ w2.cell? ⟨q, 1, none⟩ = some (.pointer (some ⟨mb, 0, none⟩))) ∧ Hid (∀ m, Calls Try.prog 14 #[.pointer (some ⟨mb, 0, none⟩), sv k] (w2.drewN m) fun e w3 => e = .returned (.tuple #[sv ((getL N k).getD []), .bool (getL N k).isSome]) ∧ (w3.cell? ⟨Z, 2, none⟩ = some (sv k) ∧ w3.cell? ⟨q, 1, none⟩ = some (.pointer (some ⟨mb, 0, none⟩))) ∧ Hid (TJ Z #[.int .i64 2, .int .i64 nn, sv k, sv v] s x q r mb M N M N d w w3))) := hidb (by
                refine (tj_load JX.out k).mono ?_
                rintro e w2 ⟨e1, H⟩
                obtain ⟨⟨_, _, y2, _⟩, y4⟩ := H.out.cells
                refine ⟨e1, ⟨y2, y4⟩, hidb fun m => ((tj_rget (H.out.below (drewN_below w2 m)) hN k).mono ?_)⟩
                rintro e w3 ⟨e3, H3⟩
                obtain ⟨⟨_, _, z2, _⟩, z4⟩ := H3.out.cells
                exact ⟨e3, ⟨z2, z4⟩, hidb H3.out⟩)
              generalize (getL N k).getD [] = gv at *
              generalize (getL N k).isSome = gb at *
              clear HJ JX hM hN hk hv h0 h1 d0 d1 HT
              go_wp2_with (first
                | (go_at_call 13; refine HG.out.mono ?_; clear HG; rintro e w5 ⟨rfl, ⟨y2, y4⟩, HG2⟩)
                | fail)
              go_region_held3 (fun X => X.cell? ⟨Z, 2, none⟩ = some (sv k) ∧ X.cell? ⟨q, 1, none⟩ = some (.pointer (some ⟨mb, 0, none⟩))) (first | go_keep | exact ⟨z2, z4⟩ | exact ⟨y2, y4⟩) (first
                | (go_at_call 14; refine (HG2.out _).mono ?_; clear HG2; rintro e w6 ⟨rfl, ⟨z2, z4⟩, HP3⟩))
              go_wp2_with fail
              go_meet
              case rel => exact ⟨by simp, hidb ⟨d, by rw [HE1.out, HE2.out]; exact HP3.out, Nat.le_succ _⟩⟩
            · have d2 : (kd == 2) = false := by simpa using h2
              by_cases h3 : kd = 3
              · subst h3
                have HE1 : Hid (txM M N ⟨3, nn, k, v⟩ = M) := hidb (by simp [txM])
                have HG : Hid (Calls Try.prog 15 #[.pointer (some ⟨x, 0, none⟩), sv k] W fun e w2 => e = .returned (.tuple #[sv ((nextL N k).getD []), .bool (nextL N k).isSome]) ∧ (w2.cell? ⟨Z, 2, none⟩ = some (sv k) ∧ w2.cell? ⟨q, 1, none⟩ = some (.pointer (some ⟨mb, 0, none⟩))) ∧ Hid (∀ m, Calls Try.prog 16 #[.pointer (some ⟨mb, 0, none⟩), sv k] (w2.drewN m) fun e w3 => e = .returned (.tuple #[sv ((nextL N k).getD []), .bool (nextL N k).isSome]) ∧ (w3.cell? ⟨Z, 2, none⟩ = some (sv k) ∧ w3.cell? ⟨q, 1, none⟩ = some (.pointer (some ⟨mb, 0, none⟩))) ∧ Hid (TJ Z #[.int .i64 3, .int .i64 nn, sv k, sv v] s x q r mb M N M N d w w3))) := hidb (by
                  refine (tj_next JX.out k).mono ?_
                  rintro e w2 ⟨e1, H⟩
                  obtain ⟨⟨_, _, y2, _⟩, y4⟩ := H.out.cells
                  refine ⟨e1, ⟨y2, y4⟩, hidb fun m => ((tj_rnext (H.out.below (drewN_below w2 m)) hN k).mono ?_)⟩
                  rintro e w3 ⟨e3, H3⟩
                  obtain ⟨⟨_, _, z2, _⟩, z4⟩ := H3.out.cells
                  exact ⟨e3, ⟨z2, z4⟩, hidb H3.out⟩)
                generalize (nextL N k).getD [] = gv at *
                generalize (nextL N k).isSome = gb at *
                clear HJ JX hM hN hk hv h0 h1 h2 d0 d1 d2 HT
                go_wp2_with (first
                  | (go_at_call 15; refine HG.out.mono ?_; clear HG; rintro e w5 ⟨rfl, ⟨y2, y4⟩, HG2⟩)
                  | fail)
                go_region_held3 (fun X => X.cell? ⟨Z, 2, none⟩ = some (sv k) ∧ X.cell? ⟨q, 1, none⟩ = some (.pointer (some ⟨mb, 0, none⟩))) (first | go_keep | exact ⟨z2, z4⟩ | exact ⟨y2, y4⟩) (first
                  | (go_at_call 16; refine (HG2.out _).mono ?_; clear HG2; rintro e w6 ⟨rfl, ⟨z2, z4⟩, HP3⟩))
                go_wp2_with fail
                go_meet
                case rel => exact ⟨by simp, hidb ⟨d, by rw [HE1.out, HE2.out]; exact HP3.out, Nat.le_succ _⟩⟩
              · have d3 : (kd == 3) = false := by simpa using h3
                have HE1 : Hid (txM M N ⟨kd, nn, k, v⟩ = N) := hidb (by simp [txM, h0, h1, h2, h3])
                have HP : Hid (Calls Try.prog 17 #[.pointer (some ⟨x, 0, none⟩)] W fun e w2 => e = .returned (.int .i64 0) ∧ Hid (Calls Try.prog 18 #[.pointer (some ⟨q, 0, none⟩)] w2 fun e w3 => e = .returned (.int .i64 0) ∧ Hid (TJ Z #[.int .i64 kd, .int .i64 nn, sv k, sv v] s x q r mb N N N N 0 w w3))) := hidb (by
                  refine (tj_commit JX.out hM hN hd46).mono ?_
                  rintro e w2 ⟨e1, H⟩
                  refine ⟨e1, hidb ((tj_rcommit H.out hN).mono ?_)⟩
                  rintro e w3 ⟨e2, H3⟩
                  exact ⟨e2, hidb H3.out⟩)
                clear HJ JX hM hN hk hv h0 h1 h2 h3 HT hd46
                go_wp2_with (first
                  | (go_at_call 17; refine HP.out.mono ?_; clear HP; rintro e w5 ⟨rfl, HP2⟩)
                  | (go_at_call 8; refine (HNm.out _ _).mono ?_; rintro e wn ⟨rfl, rfl⟩)
                  | (go_at_call 18; refine HP2.out.mono ?_; clear HP2; rintro e w6 ⟨rfl, HP3⟩)
                  | fail)
                go_meet
                case rel => exact ⟨by simp, hidb ⟨0, by rw [HE1.out, HE2.out]; exact HP3.out, Nat.zero_le _⟩⟩
      case rest =>
        obtain ⟨rfl, HC⟩ := hcut
        clear JX HT
        obtain ⟨d', hC, hd'⟩ := HC.out
        have hMo := txM_ok hM hN ⟨kd, nn, k, v⟩
        have hNo := txN_ok hN ⟨kd, nn, k, v⟩
        generalize txM M N ⟨kd, nn, k, v⟩ = M' at hC hMo
        generalize txN N ⟨kd, nn, k, v⟩ = N' at hC hNo
        have hd46 : (d' + 1000) * 46 ≤ 140737488355328 := by omega
        have HX := hidb (show ∃ M N d, TK s x q r mb M N d w wc ∧ MOk M ∧ MOk N ∧ d ≤ i + 1 from ⟨M', N', d', ⟨hC.1, hC.2.1⟩, hMo, hNo, by omega⟩)
        have HJ : Hid (∀ W, Below wc.heap.size wc W → TJ Z #[.int .i64 kd, .int .i64 nn, sv k, sv v] s x q r mb M' N' M' N' d' w W) := hidb fun W h => hC.below h
        have HCh : Hid (∀ W, Below wc.heap.size wc W → Calls Try.prog 20 #[.pointer (some ⟨x, 0, none⟩)] W fun e w1 => ∃ v, e = .returned v ∧ (∃ va n vc, v = .slice va n vc ∧ PRow va n vc (chgD M' N' (unA N' M')) w1) ∧ Below W.heap.size W w1) := hidb fun W h => tj_changes (HJ.out W h) hNo hd46
        have HRc : Hid (∀ W, Below wc.heap.size wc W → Calls Try.prog 21 #[.pointer (some ⟨q, 0, none⟩)] W fun e w1 => ∃ v, e = .returned v ∧ (∃ va n vc, v = .slice va n vc ∧ DRow va n vc (chgD M' N' (unA N' M')) w1) ∧ Below W.heap.size W w1) := hidb fun W h => tj_rchanges (HJ.out W h) hMo hNo
        have HBy : Hid (∀ W, Below wc.heap.size wc W → Calls Try.prog 22 #[.pointer (some ⟨s, 0, none⟩)] W fun e w1 => ∃ v, e = .returned v ∧ Cq (stB M') w1 v ∧ Below W.heap.size W w1) := hidb fun W h => tj_bytes (HJ.out W h) hMo
        have HRy : Hid (∀ W, Below wc.heap.size wc W → Calls Try.prog 23 #[.pointer (some ⟨r, 0, none⟩)] W fun e w1 => ∃ v, e = .returned v ∧ Cq (stB M') w1 v ∧ Below W.heap.size W w1) := hidb fun W h => tj_rbytes (HJ.out W h) hMo
        have HCl := hidb (chgD_len hMo hNo)
        generalize chgD M' N' (unA N' M') = C at HCh HRc HCl
        generalize stB M' = XB at HBy HRy
        clear HC HJ hMo hNo hC hM hN hk hv
        go_upto_region 25 with fail
        have hTab : ∃ T : Nat → Value, T 0 = .bool true ∧ T 1 = .bool false ∧ T 2 = .bool false ∧ T 3 = .pointer (some ⟨x, 0, none⟩) ∧ T 4 = undef ∧ T 5 = .pointer (some ⟨q, 0, none⟩) ∧ T 6 = undef ∧ T 7 = .bool true ∧ T 8 = .bool false ∧ T 9 = .bool false ∧ T 10 = .bool false ∧ T 11 = .pointer (some ⟨s, 0, none⟩) ∧ T 12 = undef ∧ T 13 = sv XB ∧ T 14 = .pointer (some ⟨r, 0, none⟩) ∧ T 15 = undef ∧ T 16 = sv XB ∧ T 17 = .bool false ∧ T 18 = .bool false := ⟨fun i => match i with | 0 => .bool true | 1 => .bool false | 2 => .bool false | 3 => .pointer (some ⟨x, 0, none⟩) | 4 => undef | 5 => .pointer (some ⟨q, 0, none⟩) | 6 => undef | 7 => .bool true | 8 => .bool false | 9 => .bool false | 10 => .bool false | 11 => .pointer (some ⟨s, 0, none⟩) | 12 => undef | 13 => sv XB | 14 => .pointer (some ⟨r, 0, none⟩) | 15 => undef | 16 => sv XB | 17 => .bool false | 18 => .bool false | _ => undef, rfl, rfl, rfl, rfl, rfl, rfl, rfl, rfl, rfl, rfl, rfl, rfl, rfl, rfl, rfl, rfl, rfl, rfl, rfl⟩
        obtain ⟨T, T0, T1, T2, T3, T4, T5, T6, T7, T8, T9, T10, T11, T12, T13, T14, T15, T16, T17, T18⟩ := hTab
        refine wp_region_eachg (by kernel_rfl) 161 rfl (by kernel_rfl) (fun _ W => Below wc.heap.size wc W) (fun _ i v W => Pt T C XB i v W) ?start ?each ?_
        case start => exact (Below.refl _ _).drew
        case each =>
          intro ip o ho listed a W hE hnl haf
          have hip : ip < 19 := (Array.getElem?_eq_some_iff.1 ho).1
          have t11 : a.tmps[11]?.getD undef = .bool true := hE.rest 11 (rest_of (by kernel_rfl))
          have t7 : a.tmps[7]?.getD undef = .pointer (some ⟨x, 0, none⟩) := hE.rest 7 (rest_of (by kernel_rfl))
          have t8 : a.tmps[8]?.getD undef = .pointer (some ⟨q, 0, none⟩) := hE.rest 8 (rest_of (by kernel_rfl))
          have t5 : a.tmps[5]?.getD undef = .pointer (some ⟨s, 0, none⟩) := hE.rest 5 (rest_of (by kernel_rfl))
          have t6 : a.tmps[6]?.getD undef = .pointer (some ⟨r, 0, none⟩) := hE.rest 6 (rest_of (by kernel_rfl))
          have hG := hE.glob
          match ip, hip, ho, hnl, haf with
          | 0, _, ho, hnl, haf =>
            obtain rfl := Option.some.inj ho
            exact owesP_value (W' := _) rfl rfl (by simp [execOp, go_sem, t11]) (Pt.t (by decide) T0.symm) hG (fun _ _ _ h => h)
          | 1, _, ho, hnl, haf =>
            obtain rfl := Option.some.inj ho
            have h0 : a.tmps[142]?.getD undef = .bool true := ((hE.vals 0 _ 142 rfl (haf ⟨0, .data⟩ (by simp) rfl) rfl).2.2.2 (by decide) (by decide) (by decide) (by decide)).trans T0
            exact owesP_value (W' := _) rfl rfl (by simp [execOp, go_sem, h0]) (Pt.t (by decide) T1.symm) hG (fun _ _ _ h => h)
          | 2, _, ho, hnl, haf =>
            obtain rfl := Option.some.inj ho
            have h1 : a.tmps[143]?.getD undef = .bool false := ((hE.vals 1 _ 143 rfl (haf ⟨1, .data⟩ (by simp) rfl) rfl).2.2.2 (by decide) (by decide) (by decide) (by decide)).trans T1
            exact owesP_value (W' := _) rfl rfl (by simp [execOp, go_sem, h1]) (Pt.t (by decide) T2.symm) hG (fun _ _ _ h => h)
          | 3, _, ho, hnl, haf =>
            obtain rfl := Option.some.inj ho
            have hg : a.tmps[144]?.getD undef = .bool false := ((hE.vals 2 _ 144 rfl (haf ⟨2, .guard⟩ (by simp) rfl) rfl).2.2.2 (by decide) (by decide) (by decide) (by decide)).trans T2
            exact owesP_value (W' := _) rfl ((wanted_is rfl rfl hg).trans rfl) (by simp [execOp, go_sem, t7]) (Pt.t (by decide) T3.symm) hG (fun _ _ _ h => h)
          | 4, _, ho, hnl, haf =>
            obtain rfl := Option.some.inj ho
            have hg : a.tmps[144]?.getD undef = .bool false := ((hE.vals 2 _ 144 rfl (haf ⟨2, .guard⟩ (by simp) rfl) rfl).2.2.2 (by decide) (by decide) (by decide) (by decide)).trans T2
            have h3 : a.tmps[145]?.getD undef = .pointer (some ⟨x, 0, none⟩) := ((hE.vals 3 _ 145 rfl (haf ⟨3, .data⟩ (by simp) rfl) rfl).2.2.2 (by decide) (by decide) (by decide) (by decide)).trans T3
            refine owesP_call rfl ((wanted_is rfl rfl hg).trans rfl) (R := _) (by simp [execOp, go_sem, h3]) (HCh.out W hG) fun e W' h => ?_
            obtain ⟨v, he, hv, hb⟩ := h
            exact ⟨v, he, Pt.p rfl hv, hG.trans (hb.mono hG.size), fun _ _ _ h => h.below hb⟩
          | 5, _, ho, hnl, haf =>
            obtain rfl := Option.some.inj ho
            have hg : a.tmps[144]?.getD undef = .bool false := ((hE.vals 2 _ 144 rfl (haf ⟨2, .guard⟩ (by simp) rfl) rfl).2.2.2 (by decide) (by decide) (by decide) (by decide)).trans T2
            exact owesP_value (W' := _) rfl ((wanted_is rfl rfl hg).trans rfl) (by simp [execOp, go_sem, t8]) (Pt.t (by decide) T5.symm) hG (fun _ _ _ h => h)
          | 6, _, ho, hnl, haf =>
            obtain rfl := Option.some.inj ho
            have hg : a.tmps[144]?.getD undef = .bool false := ((hE.vals 2 _ 144 rfl (haf ⟨2, .guard⟩ (by simp) rfl) rfl).2.2.2 (by decide) (by decide) (by decide) (by decide)).trans T2
            have h5 : a.tmps[147]?.getD undef = .pointer (some ⟨q, 0, none⟩) := ((hE.vals 5 _ 147 rfl (haf ⟨5, .data⟩ (by simp) rfl) rfl).2.2.2 (by decide) (by decide) (by decide) (by decide)).trans T5
            refine owesP_call rfl ((wanted_is rfl rfl hg).trans rfl) (R := _) (by simp [execOp, go_sem, h5]) (HRc.out W hG) fun e W' h => ?_
            obtain ⟨v, he, hv, hb⟩ := h
            exact ⟨v, he, Pt.d rfl hv, hG.trans (hb.mono hG.size), fun _ _ _ h => h.below hb⟩
          | 7, _, ho, hnl, haf =>
            obtain rfl := Option.some.inj ho
            have hg : a.tmps[144]?.getD undef = .bool false := ((hE.vals 2 _ 144 rfl (haf ⟨2, .guard⟩ (by simp) rfl) rfl).2.2.2 (by decide) (by decide) (by decide) (by decide)).trans T2
            obtain ⟨pa, pn, pc, h4, pr⟩ := (hE.vals 4 _ 146 rfl (haf ⟨4, .data⟩ (by simp) rfl) rfl).1 rfl
            obtain ⟨qa, qn, qc, h6, qr⟩ := (hE.vals 6 _ 148 rfl (haf ⟨6, .data⟩ (by simp) rfl) rfl).2.1 rfl
            have hpn := pr.1
            have hqn := qr.1
            subst hpn hqn
            refine owesP_call rfl ((wanted_is rfl rfl hg).trans rfl) (R := _) (by simp [execOp, go_sem, h4, h6]) (same11_yes C pa qa _ pc qc W pr qr HCl.out) fun e W' h => ?_
            obtain ⟨he, hb⟩ := h
            exact ⟨_, he, (Pt.t (by decide) T7.symm), hG.trans (hb.mono hG.size), fun _ _ _ h => h.below hb⟩
          | 8, _, ho, hnl, haf =>
            obtain rfl := Option.some.inj ho
            have hg : a.tmps[144]?.getD undef = .bool false := ((hE.vals 2 _ 144 rfl (haf ⟨2, .guard⟩ (by simp) rfl) rfl).2.2.2 (by decide) (by decide) (by decide) (by decide)).trans T2
            have h7 : a.tmps[149]?.getD undef = .bool true := ((hE.vals 7 _ 149 rfl (haf ⟨7, .data⟩ (by simp) rfl) rfl).2.2.2 (by decide) (by decide) (by decide) (by decide)).trans T7
            exact owesP_value (W' := _) rfl ((wanted_is rfl rfl hg).trans rfl) (by simp [execOp, go_sem, h7]) (Pt.t (by decide) T8.symm) hG (fun _ _ _ h => h)
          | 9, _, ho, hnl, haf =>
            obtain rfl := Option.some.inj ho
            have h2 : a.tmps[144]?.getD undef = .bool false := ((hE.vals 2 _ 144 rfl (haf ⟨2, .data⟩ (by simp) rfl) rfl).2.2.2 (by decide) (by decide) (by decide) (by decide)).trans T2
            have h8 : a.tmps[150]?.getD undef = .bool false := ((hE.vals 8 _ 150 rfl (haf ⟨8, .data⟩ (by simp) rfl) rfl).2.2.2 (by decide) (by decide) (by decide) (by decide)).trans T8
            exact owesP_value (W' := _) rfl rfl (by simp [execOp, go_sem, h2, h8]) (Pt.t (by decide) T9.symm) hG (fun _ _ _ h => h)
          | 10, _, ho, hnl, haf =>
            obtain rfl := Option.some.inj ho
            have h9 : a.tmps[151]?.getD undef = .bool false := ((hE.vals 9 _ 151 rfl (haf ⟨9, .data⟩ (by simp) rfl) rfl).2.2.2 (by decide) (by decide) (by decide) (by decide)).trans T9
            exact owesP_value (W' := _) rfl rfl (by simp [execOp, go_sem, h9]) (Pt.t (by decide) T10.symm) hG (fun _ _ _ h => h)
          | 11, _, ho, hnl, haf =>
            obtain rfl := Option.some.inj ho
            have hg : a.tmps[152]?.getD undef = .bool false := ((hE.vals 10 _ 152 rfl (haf ⟨10, .guard⟩ (by simp) rfl) rfl).2.2.2 (by decide) (by decide) (by decide) (by decide)).trans T10
            exact owesP_value (W' := _) rfl ((wanted_is rfl rfl hg).trans rfl) (by simp [execOp, go_sem, t5]) (Pt.t (by decide) T11.symm) hG (fun _ _ _ h => h)
          | 12, _, ho, hnl, haf =>
            obtain rfl := Option.some.inj ho
            have hg : a.tmps[152]?.getD undef = .bool false := ((hE.vals 10 _ 152 rfl (haf ⟨10, .guard⟩ (by simp) rfl) rfl).2.2.2 (by decide) (by decide) (by decide) (by decide)).trans T10
            have h11 : a.tmps[153]?.getD undef = .pointer (some ⟨s, 0, none⟩) := ((hE.vals 11 _ 153 rfl (haf ⟨11, .data⟩ (by simp) rfl) rfl).2.2.2 (by decide) (by decide) (by decide) (by decide)).trans T11
            refine owesP_call rfl ((wanted_is rfl rfl hg).trans rfl) (R := _) (by simp [execOp, go_sem, h11]) (HBy.out W hG) fun e W' h => ?_
            obtain ⟨v, he, hv, hb⟩ := h
            exact ⟨v, he, Pt.c (by decide) hv, hG.trans (hb.mono hG.size), fun _ _ _ h => h.below hb⟩
          | 13, _, ho, hnl, haf =>
            obtain rfl := Option.some.inj ho
            have hg : a.tmps[152]?.getD undef = .bool false := ((hE.vals 10 _ 152 rfl (haf ⟨10, .guard⟩ (by simp) rfl) rfl).2.2.2 (by decide) (by decide) (by decide) (by decide)).trans T10
            obtain ⟨ba, bn, bc, h12, cv⟩ := (hE.vals 12 _ 154 rfl (haf ⟨12, .data⟩ (by simp) rfl) rfl).2.2.1 (by decide)
            replace cv := cv.run
            exact owesP_value (W' := _) rfl ((wanted_is rfl rfl hg).trans rfl) (by simp [execOp, go_sem, cv, h12]) (Pt.t (by decide) T13.symm) hG (fun _ _ _ h => h)
          | 14, _, ho, hnl, haf =>
            obtain rfl := Option.some.inj ho
            have hg : a.tmps[152]?.getD undef = .bool false := ((hE.vals 10 _ 152 rfl (haf ⟨10, .guard⟩ (by simp) rfl) rfl).2.2.2 (by decide) (by decide) (by decide) (by decide)).trans T10
            exact owesP_value (W' := _) rfl ((wanted_is rfl rfl hg).trans rfl) (by simp [execOp, go_sem, t6]) (Pt.t (by decide) T14.symm) hG (fun _ _ _ h => h)
          | 15, _, ho, hnl, haf =>
            obtain rfl := Option.some.inj ho
            have hg : a.tmps[152]?.getD undef = .bool false := ((hE.vals 10 _ 152 rfl (haf ⟨10, .guard⟩ (by simp) rfl) rfl).2.2.2 (by decide) (by decide) (by decide) (by decide)).trans T10
            have h14 : a.tmps[156]?.getD undef = .pointer (some ⟨r, 0, none⟩) := ((hE.vals 14 _ 156 rfl (haf ⟨14, .data⟩ (by simp) rfl) rfl).2.2.2 (by decide) (by decide) (by decide) (by decide)).trans T14
            refine owesP_call rfl ((wanted_is rfl rfl hg).trans rfl) (R := _) (by simp [execOp, go_sem, h14]) (HRy.out W hG) fun e W' h => ?_
            obtain ⟨v, he, hv, hb⟩ := h
            exact ⟨v, he, Pt.c (by decide) hv, hG.trans (hb.mono hG.size), fun _ _ _ h => h.below hb⟩
          | 16, _, ho, hnl, haf =>
            obtain rfl := Option.some.inj ho
            have hg : a.tmps[152]?.getD undef = .bool false := ((hE.vals 10 _ 152 rfl (haf ⟨10, .guard⟩ (by simp) rfl) rfl).2.2.2 (by decide) (by decide) (by decide) (by decide)).trans T10
            obtain ⟨ba, bn, bc, h15, cv⟩ := (hE.vals 15 _ 157 rfl (haf ⟨15, .data⟩ (by simp) rfl) rfl).2.2.1 (by decide)
            replace cv := cv.run
            exact owesP_value (W' := _) rfl ((wanted_is rfl rfl hg).trans rfl) (by simp [execOp, go_sem, cv, h15]) (Pt.t (by decide) T16.symm) hG (fun _ _ _ h => h)
          | 17, _, ho, hnl, haf =>
            obtain rfl := Option.some.inj ho
            have hg : a.tmps[152]?.getD undef = .bool false := ((hE.vals 10 _ 152 rfl (haf ⟨10, .guard⟩ (by simp) rfl) rfl).2.2.2 (by decide) (by decide) (by decide) (by decide)).trans T10
            have h13 : a.tmps[155]?.getD undef = sv XB := ((hE.vals 13 _ 155 rfl (haf ⟨13, .data⟩ (by simp) rfl) rfl).2.2.2 (by decide) (by decide) (by decide) (by decide)).trans T13
            have h16 : a.tmps[158]?.getD undef = sv XB := ((hE.vals 16 _ 158 rfl (haf ⟨16, .data⟩ (by simp) rfl) rfl).2.2.2 (by decide) (by decide) (by decide) (by decide)).trans T16
            exact owesP_value (W' := _) rfl ((wanted_is rfl rfl hg).trans rfl) (by simp [execOp, go_sem, h13, h16]) (Pt.t (by decide) T17.symm) hG (fun _ _ _ h => h)
          | 18, _, ho, hnl, haf =>
            obtain rfl := Option.some.inj ho
            have h10 : a.tmps[152]?.getD undef = .bool false := ((hE.vals 10 _ 152 rfl (haf ⟨10, .data⟩ (by simp) rfl) rfl).2.2.2 (by decide) (by decide) (by decide) (by decide)).trans T10
            have h17 : a.tmps[159]?.getD undef = .bool false := ((hE.vals 17 _ 159 rfl (haf ⟨17, .data⟩ (by simp) rfl) rfl).2.2.2 (by decide) (by decide) (by decide) (by decide)).trans T17
            exact owesP_value (W' := _) rfl rfl (by simp [execOp, go_sem, h10, h17]) (Pt.t (by decide) T18.symm) hG (fun _ _ _ h => h)
        intro a W hE
        have h18 : a.tmps[160]?.getD undef = .bool false := ((hE.vals 18 _ 160 rfl (by rfl) rfl).2.2.2 (by decide) (by decide) (by decide) (by decide)).trans T18
        have hF : Below wc.heap.size wc W := hE.glob
        have hsz := hE.tsize
        have hdf := hE.defers
        have rr := fun t h => hE.rest t h
        obtain ⟨tm, df⟩ := a
        simp only at hsz hdf rr h18
        have htm := arr_out 161 tm (by rw [hsz]; rfl) undef
        simp only [List.range, List.range.loop, List.map_cons, List.map_nil] at htm
        rw [h18] at htm
        rw [show tm[0]?.getD undef = _ from rr 0 (rest_of (by kernel_rfl))] at htm
        rw [show tm[1]?.getD undef = _ from rr 1 (rest_of (by kernel_rfl))] at htm
        rw [show tm[2]?.getD undef = _ from rr 2 (rest_of (by kernel_rfl))] at htm
        rw [show tm[3]?.getD undef = _ from rr 3 (rest_of (by kernel_rfl))] at htm
        rw [show tm[4]?.getD undef = _ from rr 4 (rest_of (by kernel_rfl))] at htm
        rw [show tm[5]?.getD undef = _ from rr 5 (rest_of (by kernel_rfl))] at htm
        rw [show tm[6]?.getD undef = _ from rr 6 (rest_of (by kernel_rfl))] at htm
        rw [show tm[7]?.getD undef = _ from rr 7 (rest_of (by kernel_rfl))] at htm
        rw [show tm[8]?.getD undef = _ from rr 8 (rest_of (by kernel_rfl))] at htm
        rw [show tm[9]?.getD undef = _ from rr 9 (rest_of (by kernel_rfl))] at htm
        rw [show tm[10]?.getD undef = _ from rr 10 (rest_of (by kernel_rfl))] at htm
        rw [show tm[11]?.getD undef = _ from rr 11 (rest_of (by kernel_rfl))] at htm
        rw [show tm[12]?.getD undef = _ from rr 12 (rest_of (by kernel_rfl))] at htm
        rw [show tm[13]?.getD undef = _ from rr 13 (rest_of (by kernel_rfl))] at htm
        rw [show tm[14]?.getD undef = _ from rr 14 (rest_of (by kernel_rfl))] at htm
        rw [show tm[15]?.getD undef = _ from rr 15 (rest_of (by kernel_rfl))] at htm
        rw [show tm[16]?.getD undef = _ from rr 16 (rest_of (by kernel_rfl))] at htm
        rw [show tm[17]?.getD undef = _ from rr 17 (rest_of (by kernel_rfl))] at htm
        rw [show tm[18]?.getD undef = _ from rr 18 (rest_of (by kernel_rfl))] at htm
        rw [show tm[19]?.getD undef = _ from rr 19 (rest_of (by kernel_rfl))] at htm
        rw [show tm[20]?.getD undef = _ from rr 20 (rest_of (by kernel_rfl))] at htm
        rw [show tm[21]?.getD undef = _ from rr 21 (rest_of (by kernel_rfl))] at htm
        rw [show tm[22]?.getD undef = _ from rr 22 (rest_of (by kernel_rfl))] at htm
        rw [show tm[23]?.getD undef = _ from rr 23 (rest_of (by kernel_rfl))] at htm
        rw [show tm[24]?.getD undef = _ from rr 24 (rest_of (by kernel_rfl))] at htm
        rw [show tm[25]?.getD undef = _ from rr 25 (rest_of (by kernel_rfl))] at htm
        rw [show tm[26]?.getD undef = _ from rr 26 (rest_of (by kernel_rfl))] at htm
        rw [show tm[27]?.getD undef = _ from rr 27 (rest_of (by kernel_rfl))] at htm
        rw [show tm[28]?.getD undef = _ from rr 28 (rest_of (by kernel_rfl))] at htm
        rw [show tm[29]?.getD undef = _ from rr 29 (rest_of (by kernel_rfl))] at htm
        rw [show tm[30]?.getD undef = _ from rr 30 (rest_of (by kernel_rfl))] at htm
        rw [show tm[31]?.getD undef = _ from rr 31 (rest_of (by kernel_rfl))] at htm
        rw [show tm[32]?.getD undef = _ from rr 32 (rest_of (by kernel_rfl))] at htm
        rw [show tm[33]?.getD undef = _ from rr 33 (rest_of (by kernel_rfl))] at htm
        rw [show tm[34]?.getD undef = _ from rr 34 (rest_of (by kernel_rfl))] at htm
        rw [show tm[35]?.getD undef = _ from rr 35 (rest_of (by kernel_rfl))] at htm
        rw [show tm[36]?.getD undef = _ from rr 36 (rest_of (by kernel_rfl))] at htm
        rw [show tm[37]?.getD undef = _ from rr 37 (rest_of (by kernel_rfl))] at htm
        rw [show tm[38]?.getD undef = _ from rr 38 (rest_of (by kernel_rfl))] at htm
        rw [show tm[39]?.getD undef = _ from rr 39 (rest_of (by kernel_rfl))] at htm
        rw [show tm[40]?.getD undef = _ from rr 40 (rest_of (by kernel_rfl))] at htm
        rw [show tm[41]?.getD undef = _ from rr 41 (rest_of (by kernel_rfl))] at htm
        rw [show tm[42]?.getD undef = _ from rr 42 (rest_of (by kernel_rfl))] at htm
        rw [show tm[43]?.getD undef = _ from rr 43 (rest_of (by kernel_rfl))] at htm
        rw [show tm[44]?.getD undef = _ from rr 44 (rest_of (by kernel_rfl))] at htm
        rw [show tm[45]?.getD undef = _ from rr 45 (rest_of (by kernel_rfl))] at htm
        rw [show tm[46]?.getD undef = _ from rr 46 (rest_of (by kernel_rfl))] at htm
        rw [show tm[47]?.getD undef = _ from rr 47 (rest_of (by kernel_rfl))] at htm
        rw [show tm[48]?.getD undef = _ from rr 48 (rest_of (by kernel_rfl))] at htm
        rw [show tm[49]?.getD undef = _ from rr 49 (rest_of (by kernel_rfl))] at htm
        rw [show tm[50]?.getD undef = _ from rr 50 (rest_of (by kernel_rfl))] at htm
        rw [show tm[51]?.getD undef = _ from rr 51 (rest_of (by kernel_rfl))] at htm
        rw [show tm[52]?.getD undef = _ from rr 52 (rest_of (by kernel_rfl))] at htm
        rw [show tm[53]?.getD undef = _ from rr 53 (rest_of (by kernel_rfl))] at htm
        rw [show tm[54]?.getD undef = _ from rr 54 (rest_of (by kernel_rfl))] at htm
        rw [show tm[55]?.getD undef = _ from rr 55 (rest_of (by kernel_rfl))] at htm
        rw [show tm[56]?.getD undef = _ from rr 56 (rest_of (by kernel_rfl))] at htm
        rw [show tm[57]?.getD undef = _ from rr 57 (rest_of (by kernel_rfl))] at htm
        rw [show tm[58]?.getD undef = _ from rr 58 (rest_of (by kernel_rfl))] at htm
        rw [show tm[59]?.getD undef = _ from rr 59 (rest_of (by kernel_rfl))] at htm
        rw [show tm[60]?.getD undef = _ from rr 60 (rest_of (by kernel_rfl))] at htm
        rw [show tm[61]?.getD undef = _ from rr 61 (rest_of (by kernel_rfl))] at htm
        rw [show tm[62]?.getD undef = _ from rr 62 (rest_of (by kernel_rfl))] at htm
        rw [show tm[63]?.getD undef = _ from rr 63 (rest_of (by kernel_rfl))] at htm
        rw [show tm[64]?.getD undef = _ from rr 64 (rest_of (by kernel_rfl))] at htm
        rw [show tm[65]?.getD undef = _ from rr 65 (rest_of (by kernel_rfl))] at htm
        rw [show tm[66]?.getD undef = _ from rr 66 (rest_of (by kernel_rfl))] at htm
        rw [show tm[67]?.getD undef = _ from rr 67 (rest_of (by kernel_rfl))] at htm
        rw [show tm[68]?.getD undef = _ from rr 68 (rest_of (by kernel_rfl))] at htm
        rw [show tm[69]?.getD undef = _ from rr 69 (rest_of (by kernel_rfl))] at htm
        rw [show tm[70]?.getD undef = _ from rr 70 (rest_of (by kernel_rfl))] at htm
        rw [show tm[71]?.getD undef = _ from rr 71 (rest_of (by kernel_rfl))] at htm
        rw [show tm[72]?.getD undef = _ from rr 72 (rest_of (by kernel_rfl))] at htm
        rw [show tm[73]?.getD undef = _ from rr 73 (rest_of (by kernel_rfl))] at htm
        rw [show tm[74]?.getD undef = _ from rr 74 (rest_of (by kernel_rfl))] at htm
        rw [show tm[75]?.getD undef = _ from rr 75 (rest_of (by kernel_rfl))] at htm
        rw [show tm[76]?.getD undef = _ from rr 76 (rest_of (by kernel_rfl))] at htm
        rw [show tm[77]?.getD undef = _ from rr 77 (rest_of (by kernel_rfl))] at htm
        rw [show tm[78]?.getD undef = _ from rr 78 (rest_of (by kernel_rfl))] at htm
        rw [show tm[79]?.getD undef = _ from rr 79 (rest_of (by kernel_rfl))] at htm
        rw [show tm[80]?.getD undef = _ from rr 80 (rest_of (by kernel_rfl))] at htm
        rw [show tm[81]?.getD undef = _ from rr 81 (rest_of (by kernel_rfl))] at htm
        rw [show tm[82]?.getD undef = _ from rr 82 (rest_of (by kernel_rfl))] at htm
        rw [show tm[83]?.getD undef = _ from rr 83 (rest_of (by kernel_rfl))] at htm
        rw [show tm[84]?.getD undef = _ from rr 84 (rest_of (by kernel_rfl))] at htm
        rw [show tm[85]?.getD undef = _ from rr 85 (rest_of (by kernel_rfl))] at htm
        rw [show tm[86]?.getD undef = _ from rr 86 (rest_of (by kernel_rfl))] at htm
        rw [show tm[87]?.getD undef = _ from rr 87 (rest_of (by kernel_rfl))] at htm
        rw [show tm[88]?.getD undef = _ from rr 88 (rest_of (by kernel_rfl))] at htm
        rw [show tm[89]?.getD undef = _ from rr 89 (rest_of (by kernel_rfl))] at htm
        rw [show tm[90]?.getD undef = _ from rr 90 (rest_of (by kernel_rfl))] at htm
        rw [show tm[91]?.getD undef = _ from rr 91 (rest_of (by kernel_rfl))] at htm
        rw [show tm[92]?.getD undef = _ from rr 92 (rest_of (by kernel_rfl))] at htm
        rw [show tm[93]?.getD undef = _ from rr 93 (rest_of (by kernel_rfl))] at htm
        rw [show tm[94]?.getD undef = _ from rr 94 (rest_of (by kernel_rfl))] at htm
        rw [show tm[95]?.getD undef = _ from rr 95 (rest_of (by kernel_rfl))] at htm
        rw [show tm[96]?.getD undef = _ from rr 96 (rest_of (by kernel_rfl))] at htm
        rw [show tm[97]?.getD undef = _ from rr 97 (rest_of (by kernel_rfl))] at htm
        rw [show tm[98]?.getD undef = _ from rr 98 (rest_of (by kernel_rfl))] at htm
        rw [show tm[99]?.getD undef = _ from rr 99 (rest_of (by kernel_rfl))] at htm
        rw [show tm[100]?.getD undef = _ from rr 100 (rest_of (by kernel_rfl))] at htm
        rw [show tm[101]?.getD undef = _ from rr 101 (rest_of (by kernel_rfl))] at htm
        rw [show tm[102]?.getD undef = _ from rr 102 (rest_of (by kernel_rfl))] at htm
        rw [show tm[103]?.getD undef = _ from rr 103 (rest_of (by kernel_rfl))] at htm
        rw [show tm[104]?.getD undef = _ from rr 104 (rest_of (by kernel_rfl))] at htm
        rw [show tm[105]?.getD undef = _ from rr 105 (rest_of (by kernel_rfl))] at htm
        rw [show tm[106]?.getD undef = _ from rr 106 (rest_of (by kernel_rfl))] at htm
        rw [show tm[107]?.getD undef = _ from rr 107 (rest_of (by kernel_rfl))] at htm
        rw [show tm[108]?.getD undef = _ from rr 108 (rest_of (by kernel_rfl))] at htm
        rw [show tm[109]?.getD undef = _ from rr 109 (rest_of (by kernel_rfl))] at htm
        rw [show tm[110]?.getD undef = _ from rr 110 (rest_of (by kernel_rfl))] at htm
        rw [show tm[111]?.getD undef = _ from rr 111 (rest_of (by kernel_rfl))] at htm
        rw [show tm[112]?.getD undef = _ from rr 112 (rest_of (by kernel_rfl))] at htm
        rw [show tm[113]?.getD undef = _ from rr 113 (rest_of (by kernel_rfl))] at htm
        rw [show tm[114]?.getD undef = _ from rr 114 (rest_of (by kernel_rfl))] at htm
        rw [show tm[115]?.getD undef = _ from rr 115 (rest_of (by kernel_rfl))] at htm
        rw [show tm[116]?.getD undef = _ from rr 116 (rest_of (by kernel_rfl))] at htm
        rw [show tm[117]?.getD undef = _ from rr 117 (rest_of (by kernel_rfl))] at htm
        rw [show tm[118]?.getD undef = _ from rr 118 (rest_of (by kernel_rfl))] at htm
        rw [show tm[119]?.getD undef = _ from rr 119 (rest_of (by kernel_rfl))] at htm
        rw [show tm[120]?.getD undef = _ from rr 120 (rest_of (by kernel_rfl))] at htm
        rw [show tm[121]?.getD undef = _ from rr 121 (rest_of (by kernel_rfl))] at htm
        rw [show tm[122]?.getD undef = _ from rr 122 (rest_of (by kernel_rfl))] at htm
        rw [show tm[123]?.getD undef = _ from rr 123 (rest_of (by kernel_rfl))] at htm
        rw [show tm[124]?.getD undef = _ from rr 124 (rest_of (by kernel_rfl))] at htm
        rw [show tm[125]?.getD undef = _ from rr 125 (rest_of (by kernel_rfl))] at htm
        rw [show tm[126]?.getD undef = _ from rr 126 (rest_of (by kernel_rfl))] at htm
        rw [show tm[127]?.getD undef = _ from rr 127 (rest_of (by kernel_rfl))] at htm
        rw [show tm[128]?.getD undef = _ from rr 128 (rest_of (by kernel_rfl))] at htm
        rw [show tm[129]?.getD undef = _ from rr 129 (rest_of (by kernel_rfl))] at htm
        rw [show tm[130]?.getD undef = _ from rr 130 (rest_of (by kernel_rfl))] at htm
        rw [show tm[131]?.getD undef = _ from rr 131 (rest_of (by kernel_rfl))] at htm
        rw [show tm[132]?.getD undef = _ from rr 132 (rest_of (by kernel_rfl))] at htm
        rw [show tm[133]?.getD undef = _ from rr 133 (rest_of (by kernel_rfl))] at htm
        rw [show tm[134]?.getD undef = _ from rr 134 (rest_of (by kernel_rfl))] at htm
        rw [show tm[135]?.getD undef = _ from rr 135 (rest_of (by kernel_rfl))] at htm
        rw [show tm[136]?.getD undef = _ from rr 136 (rest_of (by kernel_rfl))] at htm
        rw [show tm[137]?.getD undef = _ from rr 137 (rest_of (by kernel_rfl))] at htm
        rw [show tm[138]?.getD undef = _ from rr 138 (rest_of (by kernel_rfl))] at htm
        rw [show tm[139]?.getD undef = _ from rr 139 (rest_of (by kernel_rfl))] at htm
        rw [show tm[140]?.getD undef = _ from rr 140 (rest_of (by kernel_rfl))] at htm
        rw [show tm[141]?.getD undef = _ from rr 141 (rest_of (by kernel_rfl))] at htm
        generalize tm[142]?.getD undef = z142 at htm
        generalize tm[143]?.getD undef = z143 at htm
        generalize tm[144]?.getD undef = z144 at htm
        generalize tm[145]?.getD undef = z145 at htm
        generalize tm[146]?.getD undef = z146 at htm
        generalize tm[147]?.getD undef = z147 at htm
        generalize tm[148]?.getD undef = z148 at htm
        generalize tm[149]?.getD undef = z149 at htm
        generalize tm[150]?.getD undef = z150 at htm
        generalize tm[151]?.getD undef = z151 at htm
        generalize tm[152]?.getD undef = z152 at htm
        generalize tm[153]?.getD undef = z153 at htm
        generalize tm[154]?.getD undef = z154 at htm
        generalize tm[155]?.getD undef = z155 at htm
        generalize tm[156]?.getD undef = z156 at htm
        generalize tm[157]?.getD undef = z157 at htm
        generalize tm[158]?.getD undef = z158 at htm
        generalize tm[159]?.getD undef = z159 at htm
        simp only [List.getElem?_toArray, List.getElem?_cons_succ, List.getElem?_cons_zero, Option.getD_some] at htm
        subst hdf
        rw [htm]
        clear hE htm hsz rr h18 T0 T1 T2 T3 T4 T5 T6 T7 T8 T9 T10 T11 T12 T13 T14 T15 T16 T17 T18
        have HF : Hid (∃ M N d, TK s x q r mb M N d w W ∧ MOk M ∧ MOk N ∧ d ≤ i + 1) := hidb (by
          obtain ⟨M, N, d, y1, y2⟩ := HX.out
          exact ⟨M, N, d, y1.below hF, y2⟩)
        clear hF HX HCh HRc HBy HRy HCl
        go_wp2_with fail
        exact ⟨⟨i + 1, by go_num, by omega, HF⟩, by simp [intOf]; omega⟩
    · obtain ⟨M, N, d, hT, _⟩ := HI.out
      have HB := hidb hT.1.bel
      clear HI hT
      go_wp2_with fail
      go_ret
      exact ⟨rfl, HB.out⟩
end Go.Proofs.Ytcjakgogdbfagaa
