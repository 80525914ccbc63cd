/- Layer 16: the law JournalAgain. -/
import Derived.Test.YthmjejmignangaaGreatDoorLFu16
namespace Go.Proofs.YthmjejmignangaaGreatDoor
open Go.RowKit
theorem times_nat (n : Int) : ∃ N : Nat, (wrap64 (n.tmod 4 + 4)).tmod 4 = N ∧ N ≤ 3 := by
  have a1 : -4 < n.tmod 4 := by have := Int.lt_tmod_of_pos n (b := 4) (by decide); omega
  have a2 : n.tmod 4 < 4 := Int.tmod_lt_of_pos n (by decide)
  have a3 := Int.tmod_nonneg (a := n.tmod 4 + 4) 4 (by omega)
  have a4 := Int.tmod_lt_of_pos (n.tmod 4 + 4) (show (0 : Int) < 4 by omega)
  rw [w64_in16 (x := n.tmod 4 + 4) (by omega) (by omega)]
  exact ⟨((n.tmod 4 + 4).tmod 4).toNat, by omega, by omega⟩
theorem FatO.law {w V : World} {v : Value} {fates : List Int} (h : FatO (fun i => ¬ i < w.heap.size) w v fates) (b : Below w.heap.size w V) (K : Nat → Prop) (hK : ∀ k, k < w.heap.size → K k) : FatO (fun i => ¬ K i) V v fates := by
  obtain ⟨a, c, e, h1, h2, h3⟩ := h
  refine ⟨a, c, e, h1, h2, ?_⟩
  rcases h3 with h3 | ⟨q, o, e1, e2, e3⟩
  · exact .inl h3
  · have hq : q < w.heap.size := Classical.byContradiction fun x => e2 x
    exact .inr ⟨q, o, e1, fun x => x (hK q hq), fun j hj => (b.cell (p := ⟨q, o + j, none⟩) hq).trans (e3 j hj)⟩
set_option maxRecDepth 100000 in
set_option maxHeartbeats 4000000 in
theorem magain16_any (la : Option Addr) (ln lc : Nat) (L : List Bt) (hl : L.length = ln) (w : World) (hL : BssX w la L) (hlc : ln ≤ 9223372036854775807) (sy : Int) (fa : Option Addr) (fn fc : Nat) (fates : List Int) (hf : FatO (fun i => ¬ i < w.heap.size) w (.slice fa fn fc) fates) (times : Int) :
    Calls Tryz.prog 7 #[.slice la ln lc, .int .i64 sy, .slice fa fn fc, .int .i64 times] w fun e w' => e = .returned (.bool true) ∧ Below w.heap.size w w' := by
  have HK := hidb knows_any16
  obtain ⟨tn, htn, htn3⟩ := times_nat times
  obtain ⟨mo, hmo⟩ : ∃ mo : Int, mo = ((3000 : Nat) : Int) := ⟨_, rfl⟩
  have HD : Hid (Calls Tryz.prog 18 #[.int .i64 3000] w fun e w' => ∃ db, e = .returned (.pointer (some ⟨db, 0, none⟩)) ∧ Hid (FC w mo db [] [] 0 0 (.slice none 0 0) none [] w')) := hidb ((disk_any16 3000 (by omega) (by omega) w).mono fun e w' ⟨db, h1, h2⟩ => ⟨db, h1, hidb (by rw [hmo]; exact fc_new h2.out.1 h2.out.2)⟩)
  have HEl : Hid (∀ i, i < ln → ∃ gb off av n c b, la = some ⟨gb, off, none⟩ ∧ c ≤ 9223372036854775807 ∧ (∀ W, Below w.heap.size w W → gb < W.heap.size ∧ W.cell? ⟨gb, off + i, none⟩ = some (.slice av n c)) ∧ Hid (BsX w av n c b)) := hidb fun i hi => by
    obtain ⟨gb, off, av, c, e, h1, h2, h3, h4⟩ := hL i (by omega)
    exact ⟨gb, off, av, _, c, _, e, h4, fun W hW => ⟨Nat.lt_of_lt_of_le h1 hW.size, (hW.cell (p := ⟨gb, off + i, none⟩) h1).trans h2⟩, hidb h3⟩
  have HF := hidb hf
  have HMo : Hid (mo = 3000) := hidb hmo
  clear hL hl hf
  go_enter Tryz.func7, Tryz.ntmps7
  go_upto_region 2 with (first | (go_at_call 18; refine HD.out.mono ?_; clear HD; rintro e V0 ⟨db, rfl, h0⟩) | fail)
  have HO := hidb h0.out.opens
  clear hmo
  go_upto_region 6 with (first
    | (go_at_call 12; refine HO.out.mono ?_; clear HO; rintro e V1 ⟨jb, lb, a1, c1, rfl, h1⟩)
    | (go_at_call 13; refine (num_any16 _ _).mono ?_; rintro e wn ⟨rfl, e5⟩; obtain rfl := e5.symm)
    | (go_at_call 11; refine (HK.out _).mono ?_; clear HK; rintro e V2 ⟨rfl, hb2⟩)
    | fail)
  have H0 := hidb (h1.out.fj.below hb2)
  clear h0 h1 hb2
  go_loopw [13] (fun iv wr => ∃ (i : Nat), iv = .int .i64 i ∧ i ≤ ln ∧ i ≤ 30 ∧ Hid (∃ sure may : List Bt, FJ w mo jb lb db sure may [] (i + 1) (10 * i) (.slice none 0 0) wr)) (fun iv _ => 30 - (intOf iv).toNat)
  case atStart => exact ⟨0, rfl, by omega, by omega, hidb ⟨[], [], H0.out⟩⟩
  case round =>
    clear H0
    obtain ⟨i, rfl, hi1, hi2, HX⟩ := hrel
    obtain ⟨sure, may, hI⟩ := HX.out
    have HI := hidb hI
    clear hI HX
    by_cases hgo : i < ln ∧ i < 30
    · have hbl := HI.out.bl
      obtain ⟨gb, off, av, n, c, b, rfl, hc9, hel, HB⟩ := HEl.out i hgo.1
      obtain ⟨x0, x1⟩ := hel wr hbl
      clear hel
      have hd1 : decide ((i : Int) < ln) = true := by simp; omega
      have hd2 : decide ((i : Int) < 30) = true := by simp; omega
      have hnc : n ≤ c := by
        obtain ⟨q1, q2 | ⟨_, _, _, q3, _⟩⟩ := HB.out
        · omega
        · exact q3
      have HS : Hid (∀ may V, Hid (FJ w mo jb lb db sure may [] (i + 2) (10 * i + 10) (.slice none 0 0) V) → Calls Tryz.prog 15 #[.pointer (some ⟨jb, 0, none⟩)] V fun e w' => e = .returned (.int .i64 0) ∧ Hid (∃ sure may, FJ w mo jb lb db sure may [] (i + 2) (10 * i + 10) (.slice none 0 0) w')) := hidb fun may V h => h.out.sync.mono fun e w' ⟨e1, e2⟩ => ⟨e1, hidb ⟨_, _, e2.out⟩⟩
      by_cases h300 : 300 < n
      · obtain ⟨bB, bo, rfl, HB2⟩ : ∃ bB bo, av = some ⟨bB, bo, none⟩ ∧ Hid (BsX w (some ⟨bB, bo, none⟩) 300 c (b.take 300)) := by
          obtain ⟨q1, q2 | ⟨bB, bo, e, q3, q4, q5⟩⟩ := HB.out
          · omega
          · refine ⟨bB, bo, e, hidb ⟨by rw [List.length_take]; omega, .inr ⟨bB, bo, rfl, by omega, q4, fun j hj => ?_⟩⟩⟩
            rw [List.getElem_take]
            exact q5 j (by simp at hj; omega)
        rcases HI.out.append (by omega) (some ⟨bB, bo, none⟩) 300 c (b.take 300) (HB2.out.below hbl) (by omega) with HA | ⟨q, -⟩
        · replace HA := hidb HA
          clear hbl HI HB HB2 HEl
          go_wp2_with (first
            | (go_at_call 14; refine HA.out.mono ?_; clear HA; rintro e w3 ⟨rfl, h3⟩)
            | (go_at_call 13; refine (num_any16 _ _).mono ?_; rintro e wn ⟨rfl, e5⟩; obtain rfl := e5.symm)
            | (go_at_call 15; refine (HS.out _ _ h3).mono ?_; clear HS; rintro e w6 ⟨rfl, h6⟩)
            | fail)
          · exact ⟨⟨i + 1, by simp; omega, by omega, by omega, h6⟩, by simp [intOf]; omega⟩
          · exact ⟨⟨i + 1, by simp, by omega, by omega, hidb ⟨_, _, h3.out⟩⟩, by simp [intOf]; omega⟩
        · have := HMo.out; omega
      · have hn4 : n ≤ 300 := by omega
        rcases HI.out.append (by omega) av n c b (HB.out.below hbl) (by omega) with HA | ⟨q, -⟩
        · replace HA := hidb HA
          clear hbl HI HB HEl
          go_wp2_with (first
            | (go_at_call 14; refine HA.out.mono ?_; clear HA; rintro e w3 ⟨rfl, h3⟩)
            | (go_at_call 13; refine (num_any16 _ _).mono ?_; rintro e wn ⟨rfl, e5⟩; obtain rfl := e5.symm)
            | (go_at_call 15; refine (HS.out _ _ h3).mono ?_; clear HS; rintro e w6 ⟨rfl, h6⟩)
            | fail)
          · exact ⟨⟨i + 1, by simp; omega, by omega, by omega, h6⟩, by simp [intOf]; omega⟩
          · exact ⟨⟨i + 1, by simp, by omega, by omega, hidb ⟨_, _, h3.out⟩⟩, by simp [intOf]; omega⟩
        · have := HMo.out; omega
    · have HF2 : Hid (∀ V, Below w.heap.size w V → ∀ K : Nat → Prop, (∀ k, k < w.heap.size → K k) → FatO (fun i => ¬ K i) V (.slice fa fn fc) fates) := hidb fun V hV K hK => HF.out.law hV K hK
      have HCr : Hid (Calls Tryz.prog 23 #[.pointer (some ⟨db, 0, none⟩), .slice fa fn fc] wr fun e w' => e = .returned (.tuple #[]) ∧ Hid (∃ rs, FC w mo db rs [] (i + 1) 65536 (.slice none 0 0) none [] w')) := hidb ((HI.out.crash fa fn fc fates (HF2.out wr HI.out.bl)).mono fun e w' ⟨e1, e2⟩ => ⟨e1, hidb (by
        obtain ⟨k, hk, hf⟩ := e2.out
        exact ⟨_, hf⟩)⟩)
      have HOp : Hid (∀ V, Hid (∃ rs, FC w mo db rs [] (i + 1) 65536 (.slice none 0 0) none [] V) → Calls Tryz.prog 12 #[.pointer (some ⟨db, 0, none⟩), .string ⟨#[108, 111, 103]⟩] V fun e W => ∃ jb2 a c rn, e = .returned (.tuple #[.pointer (some ⟨jb2, 0, none⟩), .slice a rn c, .int .i64 0]) ∧ rn ≤ 65536 ∧ Hid (∃ rs lb2, rs.length = rn ∧ OC w mo jb2 lb2 db rs [] (i + 2) 65536 (.slice none 0 0) a rs a W)) := hidb fun V h => by
        obtain ⟨rs, hfc⟩ := h.out
        refine hfc.opens.mono fun e W ⟨jb2, lb2, a, c, e1, e2⟩ => ⟨jb2, a, c, _, e1, ?_, hidb ⟨rs, lb2, rfl, e2.out.self⟩⟩
        have := e2.out.few
        exact this
      clear HI HEl HF
      have hdd : decide ((i : Int) < ln) = false ∨ (decide ((i : Int) < ln) = true ∧ decide ((i : Int) < 30) = false) := by
        by_cases h1 : i < ln
        · exact .inr ⟨decide_eq_true (by omega), decide_eq_false (by omega)⟩
        · exact .inl (decide_eq_false (by omega))
      rcases hdd with hd | ⟨hd, hd2⟩
      all_goals (
        go_upto_region 18 with (first
          | (go_at_call 23; refine HCr.out.mono ?_; clear HCr; rintro e w3 ⟨rfl, h3⟩)
          | (go_at_call 12; refine (HOp.out _ h3).mono ?_; clear HOp; rintro e V3 ⟨jb2, a2, c2, rn, rfl, hrn, h4⟩)
          | (go_at_call 13; refine (num_any16 _ _).mono ?_; rintro e wn ⟨rfl, e5⟩; obtain rfl := e5.symm)
          | fail))
      all_goals (
        obtain ⟨rs, lb2, hrl, hOC⟩ := h4.out
        have HRL := hidb hrl
        have H0 : Hid (∃ jb lb E m a, OC w mo jb lb db rs [] E m (.slice none 0 0) a2 rs a V3) := hidb ⟨_, _, _, _, _, hOC⟩
        clear hOC hrl h3 h4
        have HCr2 : Hid (∀ (V : World) jb lb E m a, Hid (OC w mo jb lb db rs [] E m (.slice none 0 0) a2 rs a V) → Calls Tryz.prog 23 #[.pointer (some ⟨db, 0, none⟩), .slice fa fn fc] V fun e w' => e = .returned (.tuple #[]) ∧ Hid (FC w mo db rs [] E 65536 (.slice none 0 0) a2 rs w')) := hidb fun V jb lb E m a h => FC.crash h.out fa fn fc fates (HF2.out V h.out.fj.bl)
        have HOp2 : Hid (∀ (V : World) E m, Hid (FC w mo db rs [] E m (.slice none 0 0) a2 rs V) → Calls Tryz.prog 12 #[.pointer (some ⟨db, 0, none⟩), .string ⟨#[108, 111, 103]⟩] V fun e W => ∃ jb3 lb3 a c, e = .returned (.tuple #[.pointer (some ⟨jb3, 0, none⟩), .slice a rn c, .int .i64 0]) ∧ Hid (OC w mo jb3 lb3 db rs [] (E + 1) m (.slice none 0 0) a2 rs a W)) := hidb fun V E m h => h.out.opens.mono fun e W ⟨jb3, lb3, a, c, e1, e2⟩ => ⟨jb3, lb3, a, c, by rw [e1, HRL.out], e2⟩
        have HLn2 : Hid (∀ (V : World) jb lb E m a, Hid (OC w mo jb lb db rs [] E m (.slice none 0 0) a2 rs a V) → Calls Tryz.prog 16 #[.pointer (some ⟨jb, 0, none⟩)] V fun e w' => e = .returned (.int .i64 (rn : Nat)) ∧ w' = V) := hidb fun V jb lb E m a h => by
          have := h.out.fj.len
          rw [List.append_nil, HRL.out] at this
          exact this
        have HM : Hid (∀ (V : World) jb lb E m a, Hid (OC w mo jb lb db rs [] E m (.slice none 0 0) a2 rs a V) → Hid (∀ W, Below V.heap.size V W → (∃ jb lb E m a, OC w mo jb lb db rs [] E m (.slice none 0 0) a2 rs a W) ∧ ∀ k, k < rn → ∃ g h xa r xc ya yc, a = some ⟨g, 0, none⟩ ∧ a2 = some ⟨h, 0, none⟩ ∧ W.cell? ⟨g, k, none⟩ = some (.slice xa r xc) ∧ W.cell? ⟨h, k, none⟩ = some (.slice ya r yc) ∧ ∃ b : Bt, (convert 29 9 (.slice xa r xc)).run Tryz.prog W = .ok (.string ⟨b.toArray⟩) W ∧ (convert 29 9 (.slice ya r yc)).run Tryz.prog W = .ok (.string ⟨b.toArray⟩) W)) := hidb fun V jb lb E m a h => hidb fun W hW => by
          have hO2 := h.out.below hW
          refine ⟨⟨_, _, _, _, _, hO2⟩, fun k hk => ?_⟩
          obtain ⟨r, hr⟩ : ∃ r, rs[k]? = some r := ⟨rs[k]'(by rw [HRL.out]; exact hk), List.getElem?_eq_getElem _⟩
          obtain ⟨g, xa, xc, e1, e2, e3⟩ := hO2.recs.1 k r hr
          obtain ⟨h', ya, yc, e4, e5, e6⟩ := hO2.recs.2 k r hr
          exact ⟨g, h', xa, r.length, xc, ya, yc, e1, e4, e2, e5, r, run_str e3 xc, run_str e6 yc⟩
        have HBl : Hid (∀ (V : World) jb lb E m a, OC w mo jb lb db rs [] E m (.slice none 0 0) a2 rs a V → Below w.heap.size w V) := hidb fun V jb lb E m a h => h.fj.bl
        clear HF2 HRL
        go_loopw [18] (fun tv wr => ∃ t : Nat, tv = .int .i64 t ∧ t ≤ tn ∧ Hid (∃ jb lb E m a, OC w mo jb lb db rs [] E m (.slice none 0 0) a2 rs a wr)) (fun tv _ => tn - (intOf tv).toNat)
        case atStart => exact ⟨0, rfl, Nat.zero_le _, H0⟩
        case round =>
          clear H0
          obtain ⟨t, rfl, ht, HT0⟩ := hrel
          obtain ⟨jb4, lb4, E4, m4, a4, hT⟩ := HT0.out
          have HT := hidb hT
          clear hT HT0
          by_cases htt : t < tn
          · have htt2 : (t : Int) < (tn : Int) := by omega
            have h5' : Hid (FC w mo db rs [] E4 m4 (.slice none 0 0) a2 rs wr) := hidb HT.out.fc.1
            go_upto_region 26 with (first
              | (go_at_call 23; refine (HCr2.out _ _ _ _ _ _ HT).mono ?_; clear HCr2 HT; rintro e w5 ⟨rfl, h5⟩)
              | (go_at_call 12; refine (by first | exact HOp2.out _ _ _ h5 | exact HOp2.out _ _ _ h5' : Calls Tryz.prog 12 _ _ _).mono ?_; clear HOp2; rintro e V6 ⟨jb3, lb3, a3, c3, rfl, h6⟩; have HQ := HM.out _ _ _ _ _ _ h6; have HLn := hidb (HLn2.out _ _ _ _ _ _ h6); clear HM HLn2)
              | (go_at_call 13; refine (num_any16 _ _).mono ?_; rintro e wn ⟨rfl, e5⟩; obtain rfl := e5.symm)
              | (go_at_call 16; refine HLn.out.mono ?_; clear HLn; rintro e w7 ⟨rfl, e7⟩; obtain rfl := e7.symm)
              | fail)
            all_goals (
              go_loopw [22] (fun kv wr => ∃ k : Nat, kv = .int .i64 k ∧ k ≤ rn ∧ Hid (Below V6.heap.size V6 wr)) (fun kv _ => rn - (intOf kv).toNat)
              case atStart => exact ⟨0, rfl, Nat.zero_le _, hidb (Below.refl _ _)⟩
              case round =>
                obtain ⟨k, rfl, hk, HB⟩ := hrel
                by_cases hkm : k < rn
                · have hkm2 : (k : Int) < (rn : Int) := by omega
                  obtain ⟨g, h, xa', r, xc', ya', yc', rfl, rfl, c1, c2, b, v1, v2⟩ := (HQ.out wr HB.out).2 k hkm
                  obtain ⟨g', h', xa2, r2, xc2, ya2, yc2, e1, e2, d1, d2, b2, u1, u2⟩ := (HQ.out wr.drew HB.out.drew).2 k hkm
                  cases e1
                  cases e2
                  have q1 : (Value.slice xa2 r2 xc2) = .slice xa' r xc' := by have := d1.symm.trans (show wr.drew.cell? ⟨g, k, none⟩ = some (.slice xa' r xc') from c1); injection this
                  have q2 : (Value.slice ya2 r2 yc2) = .slice ya' r yc' := by have := d2.symm.trans (show wr.drew.cell? ⟨h, k, none⟩ = some (.slice ya' r yc') from c2); injection this
                  injection q1 with q3 q4 q5
                  injection q2 with q6 q7 q8
                  subst q3 q4 q5 q6 q8
                  clear q7 d1 d2
                  have c1' : wr.drew.cell? ⟨g, k, none⟩ = some (.slice xa2 r2 xc2) := c1
                  have c2' : wr.drew.cell? ⟨h, k, none⟩ = some (.slice ya2 r2 yc2) := c2
                  go_upto_region 28 with fail
                  go_region_held (fun W => W.cell? ⟨g, k, none⟩ = some (.slice xa2 r2 xc2) ∧ W.cell? ⟨h, k, none⟩ = some (.slice ya2 r2 yc2) ∧ (convert 29 9 (.slice xa2 r2 xc2)).run Tryz.prog W = .ok (.string ⟨b2.toArray⟩) W ∧ (convert 29 9 (.slice ya2 r2 yc2)).run Tryz.prog W = .ok (.string ⟨b2.toArray⟩) W) (first | exact ⟨c1', c2', u1, u2⟩ | go_keep) (fail)
                  all_goals
                    go_wp2_with fail
                    exact ⟨⟨k + 1, by simp, by omega, hidb HB.out.drew⟩, by simp [intOf]; omega⟩
                · obtain rfl : k = rn := by omega
                  go_wp2_with fail
                  exact ⟨⟨t + 1, by simp, by omega, hidb (HQ.out _ HB.out).1⟩, by simp [intOf]; omega⟩)
          · obtain rfl : t = tn := by omega
            go_wp2_with fail
            go_ret
            exact ⟨rfl, HBl.out _ _ _ _ _ _ HT.out⟩)
end Go.Proofs.YthmjejmignangaaGreatDoor
