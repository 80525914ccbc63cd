/- Layer 11: the law StoreAll: the walk, one of its four ways. -/
import Derived.Test.YticihfbhnbkjjabLAl11
import Derived.Deep.QuietTactic
import Derived.BigQuiet
import Derived.Deep.RegionHeld3
namespace Go.Proofs.Yticihfbhnbkjjab
open Go.RowKit
set_option maxRecDepth 100000 in
set_option maxHeartbeats 8000000 in
theorem storeAll_le1 (L : List Opn) (a : Option Addr) (n cap : Nat) (Q : List Opn) (a2 : Option Addr) (n2 cap2 : Nat) (w : World) (hn : n = L.length) (hA : OpsAt w a L) (hok : ∀ x ∈ L, x.ok) (hlen : n ≤ 9223372036854775) (hn2 : n2 = Q.length) (hA2 : OpsAt w a2 Q) (hok2 : ∀ x ∈ Q, x.ok) (hlen2 : n2 ≤ 9223372036854775) (hway : n2 ≤ 300) (v0 : Bt) (hg0 : getL (playL (fillL (L.take 700)) (Q.take 300)) [] = some v0) :
    Calls Try.prog 3 #[.slice a n cap, .slice a2 n2 cap2] w fun e w' => e = .returned (.bool true) ∧ Below w.heap.size w w' := by
  have HF := hidb (filled_any L a n cap w hn hA hok hlen)
  have HK := hidb knows11_any
  have HNm := hidb num11_any
  have hMO := fill_ok (L.take 700)
  generalize fillL (L.take 700) = M at HF hMO hg0
  have HG0 := hidb hg0
  clear hg0
  have HM := hidb hMO
  have Hn2 := hidb hn2
  have HQ := hidb (And.intro hA2 hok2)
  obtain ⟨XB, hXB⟩ : ∃ XB, XB = stB M := ⟨_, rfl⟩
  have HBy : Hid (∀ sb xb N d W, AX sb xb M N d w W → Calls Try.prog 8 #[.pointer (some ⟨sb, 0, none⟩)] W fun e w1 => ∃ q k, e = .returned (.slice (some ⟨q, 0, none⟩) k k) ∧ (convert 30 9 (.slice (some ⟨q, 0, none⟩) k k)).run Try.prog w1 = .ok (sv XB) w1 ∧ Hid (AX sb xb M N d w w1)) := hidb fun sb xb N d W h => by
    obtain ⟨tb, g, hst⟩ := h.st
    refine (bytes_s hst hMO).mono ?_
    rintro e w1 ⟨q, k, e1, e2, H⟩
    refine ⟨q, k, e1, ?_, hidb (h.below H.out.2.2)⟩
    rw [hXB]
    exact e2 0
  clear hMO hA hok hn hA2 hok2 hn2 hXB
  go_enter Try.func3, Try.ntmps3
  go_wp2_with (first
    | (go_at_call 5; refine HF.out.mono ?_; clear HF; rintro e w1 ⟨sb, rb, rfl, J1⟩; have HBg := hidb (ax_begin J1.out))
    | (go_at_call 6; refine HBg.out.mono ?_; clear HBg; rintro e w2 ⟨xb, rfl, A2⟩)
    | (go_at_call 7; refine (HK.out _).mono ?_; clear HK; rintro e w3 ⟨rfl, hb3⟩; have A3 := hidb (A2.out.below hb3); have HB1 := hidb (HBy.out sb xb _ _ _ A3.out))
    | (go_at_call 8; refine HB1.out.mono ?_; clear HB1; rintro e w4 ⟨q4, k4, rfl, cv4, A4⟩)
    | fail)
  clear A3 A2 cv4 J1 hb3
  go_loopw [9] (fun iv wr => ∃ i : Nat, iv = .int .i64 i ∧ i ≤ n2 ∧ i ≤ 300 ∧ Hid (AX sb xb M (playL M (Q.take i)) i w wr)) (fun iv _ => n2 - (intOf iv).toNat)
  case atStart => exact ⟨0, rfl, Nat.zero_le _, Nat.zero_le _, A4⟩
  case round =>
    obtain ⟨i, rfl, hi, hi3, HA⟩ := hrel
    clear A4
    by_cases hlt : i < n2 ∧ i < 300
    · obtain ⟨hlt, h3⟩ := hlt
      have hil : i < Q.length := by rw [← Hn2.out]; exact hlt
      have hd1 : decide ((i : Int) < n2) = true := by simp; omega
      have hd2 : decide ((i : Int) < 300) = true := by simp; omega
      obtain ⟨b, off, ea, hbl, hcs⟩ : ∃ b off, a2 = some ⟨b, off, none⟩ ∧ b < w.heap.size ∧ ∀ j (h : j < Q.length), w.cell? ⟨b, off + j * 4, none⟩ = some (.int .i64 Q[j].kd) ∧ w.cell? ⟨b, off + j * 4 + 1, none⟩ = some (.int .i64 Q[j].nn) ∧ w.cell? ⟨b, off + j * 4 + 2, none⟩ = some (sv Q[j].k) ∧ w.cell? ⟨b, off + j * 4 + 3, none⟩ = some (sv Q[j].v) := by
        rcases HQ.out.1 with h | h
        · rw [h] at hil; cases hil
        · exact h
      obtain ⟨c0, _, c2, c3⟩ := hcs i hil
      have hb := HA.out.bel
      have d0 : wr.cell? ⟨b, off + i * 4, none⟩ = some (.int .i64 Q[i].kd) := (hb.cell (p := ⟨b, off + i * 4, none⟩) hbl).trans c0
      have d2 : wr.cell? ⟨b, off + i * 4 + 2, none⟩ = some (sv Q[i].k) := (hb.cell (p := ⟨b, off + i * 4 + 2, none⟩) hbl).trans c2
      have d3 : wr.cell? ⟨b, off + i * 4 + 3, none⟩ = some (sv Q[i].v) := (hb.cell (p := ⟨b, off + i * 4 + 3, none⟩) hbl).trans c3
      have hox := HQ.out.2 Q[i] (List.getElem_mem hil)
      have hSn : playL M (Q.take (i + 1)) = playO (playL M (Q.take i)) Q[i] := by rw [take_snocO hil, play_snoc]
      have hNok := playL_ok HM.out (Q.take i)
      rw [ea]
      have HEa := hidb ea
      by_cases hkd : Q[i].kd = 1
      · have HW : Hid (Calls Try.prog 9 #[.pointer (some ⟨xb, 0, none⟩), sv Q[i].k] wr fun e w5 => e = .returned (.int .i64 (wipeE Q[i].k)) ∧ Hid (AX sb xb M (playL M (Q.take (i + 1))) (i + 1) w w5)) := hidb ((ax_wipe HA.out Q[i].k hox.2.2.1 HM.out hNok (by omega)).mono (by
          rintro e w5 ⟨e1, H⟩
          refine ⟨e1, hidb ?_⟩
          rw [hSn, playO, if_pos hkd]
          exact H.out.1))
        rw [hkd] at d0
        generalize wipeE Q[i].k = we at HW
        generalize Q[i].k = ok at d2 HW
        clear hcs c0 c2 c3 hb hox hSn hNok hkd d3 ea
        go_wp2_with (first
          | (go_at_call 9; refine HW.out.mono ?_; clear HW; rintro e w5 ⟨rfl, A5⟩)
          | fail)
        exact ⟨⟨i + 1, by go_num, by omega, by omega, A5⟩, by simp [intOf]; omega⟩
      · have hkb : (Q[i].kd == 1) = false := by simpa using hkd
        have HW : Hid (∀ m, Calls Try.prog 10 #[.pointer (some ⟨xb, 0, none⟩), sv Q[i].k, sv Q[i].v] (wr.drewN m) fun e w5 => e = .returned (.int .i64 (putE (playL M (Q.take i)) Q[i].k Q[i].v)) ∧ Hid (AX sb xb M (playL M (Q.take (i + 1))) (i + 1) w w5)) := hidb fun m => ((ax_save (HA.out.drewN m) Q[i].k Q[i].v hox.2.2.1 hox.2.2.2 HM.out hNok).mono (by
          rintro e w5 ⟨e1, H⟩
          refine ⟨e1, hidb ?_⟩
          rw [hSn, playO, if_neg hkd]
          obtain ⟨bb, p1, p2, p3⟩ := H.out.1
          obtain ⟨SS, DD, r1, r2, r3⟩ := p2.tx
          exact ⟨bb, p1, ⟨⟨SS, DD, r1, r2, by omega⟩, p2.box, p2.nb⟩, p3⟩))
        generalize putE (playL M (Q.take i)) Q[i].k Q[i].v = pe at HW
        generalize Q[i].k = ok at d2 HW
        generalize Q[i].v = ov at d3 HW
        generalize Q[i].kd = kd at d0 hkb
        clear hcs c0 c2 c3 hb hox hSn hNok hkd ea
        go_wp2_with fail
        go_region_with (go_at_call 10; refine (HW.out _).mono ?_; clear HW; rintro e w5 ⟨rfl, A5⟩)
        all_goals
          go_wp2_with fail
          exact ⟨⟨i + 1, by go_num, by omega, by omega, A5⟩, by simp [intOf]; omega⟩
    · -- the rest
      have hNk := playL_ok HM.out (Q.take i)
      have hq3 : Q.take i = Q.take 300 := by
        have := Hn2.out
        rw [List.take_of_length_le (by omega : Q.length ≤ i), List.take_of_length_le (by omega : Q.length ≤ 300)]
      rw [hq3] at HA hNk
      have hg := HG0.out
      generalize playL M (Q.take 300) = N at HA hNk hg
      have HNk := hidb hNk
      clear hNk hq3 HG0
      have hx1 : ¬ i < n2 := by omega
      have hd1 : decide ((i : Int) < n2) = false := by simp; omega
      clear hlt hway
      have HB2 := hidb (HBy.out sb xb N i wr HA.out)
      have HLd : Hid (∀ W, AX sb xb M N i w W → Calls Try.prog 11 #[.pointer (some ⟨xb, 0, none⟩), sv []] W fun e w1 => e = .returned (.tuple #[sv v0, .bool true]) ∧ ∃ m, w1 = W.drewN m) := hidb fun W h => by
        have := ax_load h []
        rw [hg] at this
        exact this

      have HL1 : 0 + 1 ≤ maxLen := by decide
      have HL2 : (0 + 1) * 32 ≤ 140737488355328 := by decide
      have HOne : ∀ u ∈ [sv [], sv v0], u.oneCell' = true := by simp [Value.oneCell']
      have HST : Hid (∀ W, AX sb xb M N i w W → (∀ o, (W.alloc o).ownsRow w.heap.size 41 2 (.slice none 0 0) 0 []) ∧ (∀ j u, [sv [], sv v0][j]? = some u → (W.alloc (.cells #[sv [], sv v0] 41)).cell? ((⟨W.heap.size, 0, none⟩ : Addr).add j) = some u) ∧ w.heap.size ≤ (W.alloc (.cells #[sv [], sv v0] 41)).heap.size ∧ ∀ v' w9, w9.ownsRow w.heap.size 41 2 v' (0 + 1) ([] ++ [sv [], sv v0]) → Step (W.alloc (.cells #[sv [], sv v0] 41)) (.slice none 0 0) w9 v' → ∃ a c, v' = .slice a (0 + 1) c ∧ Hid (ShI sb xb M N i w (N.take 1) a 1 c w9)) := hidb fun W h => ⟨fun o => World.ownsRow_nil _ _ _ _, cells_newb W [sv [], sv v0] 41 W.heap.size rfl, by have := h.bel.size; simp; omega, fun v' w9 h1 h2 => by
        have hS : ShI sb xb M N i w [] none 0 0 W := ⟨h, rfl, World.ownsRow_nil _ _ _ _⟩
        obtain ⟨a9, c9, e9, S9⟩ := hS.push (x := ([], v0)) (by simpa [cellsP] using h1) h2
        refine ⟨a9, c9, e9, hidb ?_⟩
        obtain ⟨hp, e⟩ := first_empty HNk.out.srt hg
        have : N.take 1 = [] ++ [([], v0)] := by rw [show (1 : Nat) = 0 + 1 from rfl, take_snocK hp, e]; rfl
        rw [this]
        exact S9.out⟩

      go_wp2_with (first
        | (go_at_call 8; refine HB2.out.mono ?_; clear HB2; rintro e w6 ⟨q6, k6, rfl, cv6, A6⟩; have HL := hidb (HLd.out _ A6.out); clear HLd)
        | (go_at_call 11; refine HL.out.mono ?_; clear HL; rintro e w7 ⟨rfl, m7, rfl⟩; obtain ⟨W7, hW7⟩ : ∃ W7, W7 = w6.drewN m7 := ⟨_, rfl⟩; have A7 : Hid (AX sb xb M N i w W7) := hidb (by rw [hW7]; exact A6.out.drewN m7); rw [← hW7]; clear hW7 cv6; obtain ⟨hr7, hn7, hb7, hp7⟩ := HST.out W7 A7.out; have HRow := hidb hr7; have HNew := hidb hn7; have HBase := hidb hb7; have HPush := hidb hp7; clear hr7 hn7 hb7 hp7 HST)
        | (at_builtin; refine wpList_appN _ rfl _ _ 37 rfl elemN_pair w.heap.size _ 0 [] rfl (HRow.out _) _ rfl 1 [sv [], sv v0] (.inr ⟨⟨W7.heap.size, 0, none⟩, 1, rfl, HNew.out⟩) rfl HOne HL1 HL2 HBase.out ?_; intro v' w9 hr9 hs9; obtain ⟨ra, rc, rfl, S9⟩ := HPush.out v' w9 hr9 hs9; clear hr9 hs9 HPush)
        | fail)

      have HE0 : Hid (e0N N = 1) := hidb (by unfold e0N; rw [hg]; rfl)

      obtain ⟨hp0', he0⟩ := first_empty HNk.out.srt hg
      have hp0 : 1 ≤ N.length := hp0'
      have hk0 : preK N 1 = [] := by rw [show (1 : Nat) = 0 + 1 from rfl, preK_succ hp0', he0]
      clear hp0' he0

      go_loopw [10, 13, 14] (fun sv' kv iv wr2 => ∃ (t j : Nat) (va : Option Addr) (vc : Nat), iv = .int .i64 t ∧ j = t + 1 ∧ j ≤ N.length ∧ kv = sv (preK N j) ∧ sv' = .slice va j vc ∧ Hid (ShI sb xb M N i w (N.take j) va j vc wr2)) (fun _ _ iv _ => 600 - (intOf iv).toNat)
      case atStart => exact ⟨0, 1, ra, rc, rfl, rfl, hp0, by rw [hk0], rfl, S9⟩
      case round =>
        obtain ⟨t, j, va, vc, rfl, hjt, hj, rfl, rfl, SH⟩ := hrel
        have hN5 := HNk.out.len
        have ht6 : t < 600 := by omega
        have hd6 : decide ((t : Int) < 600) = true := by simp; omega
        have HJt := hidb hjt
        clear hjt S9 A7
        by_cases hjl : j < N.length
        · have hne := past_empty HNk.out.srt hjl (by rw [HE0.out]; have := HJt.out; omega)
          have hlk := preK_klt HNk.out.srt hjl hne
          have hb1 : Op.bytesLess N[j].1 (preK N j) = false := by simpa using klt_asymm hlk
          have hb2 : (N[j].1 == preK N j) = false := beq_eq_false_iff_ne.2 (klt_ne hlk).symm
          have HNx : Hid (Calls Try.prog 12 #[.pointer (some ⟨xb, 0, none⟩), sv (preK N j)] wr fun e w1 => e = .returned (.tuple #[sv N[j].1, .bool true]) ∧ ∃ m, w1 = wr.drewN m) := hidb (by
            have := ax_next SH.out.1 (preK N j)
            rw [next_pre HNk.out.srt hjl hne] at this
            exact this)
          have HLo : Hid (∀ m, Calls Try.prog 11 #[.pointer (some ⟨xb, 0, none⟩), sv N[j].1] (wr.drewN m) fun e w1 => e = .returned (.tuple #[sv N[j].2, .bool true]) ∧ ∃ m2, w1 = (wr.drewN m).drewN m2) := hidb fun m => by
            have := ax_load (SH.out.1.drewN m) N[j].1
            rw [getL_some HNk.out.srt (k := N[j].1) (v := N[j].2) (List.getElem_mem hjl)] at this
            exact this
          have HL1 : j + 1 ≤ maxLen := Nat.le_trans (by omega : j + 1 ≤ 1000) (by decide)
          have HL2 : (j + 1) * 32 ≤ 140737488355328 := by omega
          have HOne : ∀ u ∈ [sv N[j].1, sv N[j].2], u.oneCell' = true := by simp [Value.oneCell']
          have HST2 : Hid (∀ m, (∀ o, ((wr.drewN m).alloc o).ownsRow w.heap.size 41 2 (.slice va j vc) j (cellsP (N.take j))) ∧ (∀ jj u, [sv N[j].1, sv N[j].2][jj]? = some u → ((wr.drewN m).alloc (.cells #[sv N[j].1, sv N[j].2] 41)).cell? ((⟨(wr.drewN m).heap.size, 0, none⟩ : Addr).add jj) = some u) ∧ w.heap.size ≤ ((wr.drewN m).alloc (.cells #[sv N[j].1, sv N[j].2] 41)).heap.size ∧ ∀ v' w9, w9.ownsRow w.heap.size 41 2 v' (j + 1) (cellsP (N.take j) ++ [sv N[j].1, sv N[j].2]) → Step ((wr.drewN m).alloc (.cells #[sv N[j].1, sv N[j].2] 41)) (.slice va j vc) w9 v' → ∃ a c, v' = .slice a (j + 1) c ∧ Hid (ShI sb xb M N i w (N.take (j + 1)) a (j + 1) c w9)) := hidb fun m => ⟨fun o => by
            have h1 := (SH.out.drewN m).2.2
            rw [← (SH.out.drewN m).2.1] at h1
            exact row_below2 h1 ((Below.refl _ (wr.drewN m)).alloc (Nat.le_refl _) o), cells_newb (wr.drewN m) [sv N[j].1, sv N[j].2] 41 (wr.drewN m).heap.size rfl, by have := SH.out.1.bel.size; simp; omega, fun v' w9 h1 h2 => by
            obtain ⟨a9, c9, e9, S9⟩ := (SH.out.drewN m).push (x := N[j]) h1 h2
            refine ⟨a9, c9, e9, hidb ?_⟩
            rw [take_snocK hjl]
            exact S9.out⟩
          have HPs := hidb (preK_succ hjl)
          clear hne hlk SH
          generalize cellsP (N.take j) = CX at HST2
          generalize N[j].2 = xv at HLo HST2 HOne
          generalize N[j].1 = xk at HLo HST2 HOne HNx hb1 hb2 HPs
          go_wp2_with (first
            | (go_at_call 12; refine HNx.out.mono ?_; clear HNx; rintro e w7 ⟨rfl, m7, rfl⟩)
            | (go_at_call 11; refine (HLo.out _).mono ?_; clear HLo; rintro e w8 ⟨rfl, m8, rfl⟩; rw [World.drewN_drewN]; obtain ⟨hr7, hn7, hb7, hp7⟩ := HST2.out (m7 + m8); obtain ⟨W8, hW8⟩ : ∃ W8, W8 = wr.drewN (m7 + m8) := ⟨_, rfl⟩; rw [← hW8] at hr7 hn7 hb7 hp7 ⊢; clear hW8; have HRow := hidb hr7; have HNew := hidb hn7; have HBase := hidb hb7; have HPush := hidb hp7; clear hr7 hn7 hb7 hp7 HST2)
            | (at_builtin; refine wpList_appN _ rfl _ _ 37 rfl elemN_pair w.heap.size _ j CX rfl (HRow.out _) _ rfl 1 [sv xk, sv xv] (.inr ⟨⟨W8.heap.size, 0, none⟩, 1, rfl, HNew.out⟩) rfl HOne HL1 HL2 HBase.out ?_; intro v' w9 hr9 hs9; obtain ⟨ra, rc, rfl, S9⟩ := HPush.out v' w9 hr9 hs9; clear hr9 hs9 HPush)
            | fail)
          exact ⟨⟨t + 1, j + 1, ra, rc, by go_num, by have := HJt.out; omega, by omega, by rw [HPs.out], rfl, S9⟩, by simp [intOf]; omega⟩
        · have hjN : j = N.length := by omega
          have HNx : Hid (Calls Try.prog 12 #[.pointer (some ⟨xb, 0, none⟩), sv (preK N j)] wr fun e w1 => e = .returned (.tuple #[sv [], .bool false]) ∧ ∃ m, w1 = wr.drewN m) := hidb (by
            have := ax_next SH.out.1 (preK N j)
            rw [hjN, next_last HNk.out.srt] at this
            rw [hjN]
            exact this)
          have hfull : N.take j = N := by rw [hjN]; exact List.take_length
          have HCm : Hid (∀ m, Calls Try.prog 14 #[.pointer (some ⟨xb, 0, none⟩)] (wr.drewN m) fun e w10 => e = .returned (.int .i64 0) ∧ Hid (Calls Try.prog 15 #[.pointer (some ⟨xb, 0, none⟩)] w10 fun e w11 => ∃ ca cc, e = .returned (.slice ca 0 cc) ∧ Hid (Calls Try.prog 16 #[.pointer (some ⟨sb, 0, none⟩), sv [], sv [], .int .i64 0] w11 fun e w13 => ∃ xa xc, e = .returned (.slice xa j xc) ∧ PRow xa j xc N w13 ∧ PRow va j vc N w13 ∧ Below w.heap.size w w13))) := hidb fun m => by
            refine (ax_commit (SH.out.1.drewN m) HM.out HNk.out (by omega)).mono ?_
            rintro e w10 ⟨e1, H⟩
            obtain ⟨hax, hpr⟩ := H.out
            have hrow : PRow va j vc N (wr.drewN m) := ⟨hjN, _, by have := (SH.out.drewN m).2.2; rw [hfull] at this; exact this⟩
            have hrow2 := hpr _ _ _ _ hrow
            refine ⟨e1, hidb ((ax_changes hax HNk.out (by decide)).mono ?_)⟩
            rintro e w11 ⟨ca, nc, cc, e2, H2⟩
            obtain ⟨C, hD, _, hp, hb⟩ := H2.out
            have hC := difs_same hD
            have hnc : nc = 0 := by rw [hp.1, hC]; rfl
            subst hnc
            have hax2 := hax.below hb
            obtain ⟨tb, g, hst⟩ := hax2.st
            refine ⟨ca, cc, e2, hidb ((scan_f hst HNk.out.len [] [] 0 (by decide)).mono ?_)⟩
            rintro e w13 ⟨xa, nx, xc, e3, _, H3⟩
            have hp3 := H3.out.1
            rw [scan_all] at hp3
            have hnx : nx = j := by rw [hp3.1, hjN]
            subst hnx
            exact ⟨xa, xc, e3, hp3, (hrow2.below hb).below H3.out.2, hax2.bel.trans (H3.out.2.mono hax2.bel.size)⟩
          clear SH hfull
          obtain ⟨k, hk⟩ : ∃ k, k = j := ⟨_, rfl⟩
          have Hk := hidb hk
          rw [← hk] at HCm HNx hjN ⊢
          have HjN := hidb hjN
          clear hk hjN
          go_wp2_with (first
            | (go_at_call 12; refine HNx.out.mono ?_; clear HNx; rintro e w7 ⟨rfl, m7, rfl⟩)
            | (go_at_call 14; refine (HCm.out _).mono ?_; clear HCm; rintro e w10 ⟨rfl, HCh⟩)
            | (go_at_call 13; refine (HNm.out _ _).mono ?_; rintro e wn ⟨rfl, rfl⟩)
            | (go_at_call 15; refine HCh.out.mono ?_; clear HCh; rintro e w11 ⟨ca, cc, rfl, HSc⟩)
            | (go_at_call 16; refine HSc.out.mono ?_; clear HSc; rintro e w13 ⟨xa, xc, rfl, K13⟩)
            | fail)
          obtain ⟨hall, hshown, hbl⟩ := K13
          have HX := hidb (And.intro hall hshown)
          have HB13 := hidb hbl
          clear hall hshown hbl
          go_loopw [20] (fun iv wr3 => ∃ t : Nat, iv = .int .i64 t ∧ t ≤ k ∧ ∃ q, wr3 = w13.drewN q) (fun iv _ => k - (intOf iv).toNat)
          case atStart => exact ⟨0, rfl, Nat.zero_le _, 0, rfl⟩
          case round =>
            obtain ⟨t3, rfl, ht3, q3, hw3⟩ := hrel
            have HW3 := hidb hw3
            by_cases hlt3 : t3 < k
            · obtain ⟨hall, hshown⟩ := HX.out
              have hi3 : t3 < N.length := by rw [← hall.1]; exact hlt3
              obtain ⟨gx, ex, hgx, x0, x1⟩ := hall.at hi3
              obtain ⟨gy, ey, hgy, y0, y1⟩ := hshown.at hi3
              have f0 : wr.cell? ⟨gx, t3 * 2, none⟩ = some (sv N[t3].1) := by rw [hw3]; exact x0
              have f1 : wr.cell? ⟨gx, t3 * 2 + 1, none⟩ = some (sv N[t3].2) := by rw [hw3]; exact x1
              have f2 : wr.cell? ⟨gy, t3 * 2, none⟩ = some (sv N[t3].1) := by rw [hw3]; exact y0
              have f3 : wr.cell? ⟨gy, t3 * 2 + 1, none⟩ = some (sv N[t3].2) := by rw [hw3]; exact y1
              have HD3 : Hid (decide (k ≤ t3) = false) := hidb (by simp; omega)
              rw [ex, ey]
              have HE3 := hidb (And.intro ex ey)
              clear hall hshown x0 x1 y0 y1 ex ey hw3
              generalize N[t3] = xx at f0 f1 f2 f3
              obtain ⟨xk, xv⟩ := xx
              simp only at f0 f1 f2 f3
              go_wp2_with fail
              have hd3 := HD3.out
              go_quiet (fail)
              go_wp2_with fail
              exact ⟨⟨t3 + 1, by go_num, by omega, q3 + nq, by rw [HW3.out, World.drewN_drewN]⟩, by simp [intOf]; omega⟩
            · clear hw3
              go_wp2_with fail
              go_ret
              exact ⟨rfl, by rw [HW3.out]; exact below_drewN HB13.out q3⟩
end Go.Proofs.Yticihfbhnbkjjab
