/- Layer 15: the law SectorAgain, walked. -/
import Derived.Test.YtghhhlbpolhkhaaJE
namespace Go.Proofs.Ytghhhlbpolhkhaa
open Go.RowKit
theorem cnt_f (i : Nat) : Value.int .i64 ((i : Int) + 1) = .int .i64 ((i + 1 : Nat) : Int) := by go_num
/-- Two rows of the same sectors. -/
structure TwoR (w : World) (db : Nat) (d : Dk) (fv wv : Value) (i : Nat) (wq j : Nat) (a a2 : Option Addr) (m c2 : Nat) (S : List Sec) (W : World) : Prop where
  ag : AgI w db d fv wv i W
  s1 : SecAt W a S
  s2 : SecAt W a2 S
  cw : W.cell? ⟨wq, j, none⟩ = some (.slice a2 m c2)
  hm : m = S.length
theorem TwoR.below {w : World} {db : Nat} {d : Dk} {fv wv : Value} {i wq j : Nat} {a a2 : Option Addr} {m c2 : Nat} {S : List Sec} {W W' : World} (h : TwoR w db d fv wv i wq j a a2 m c2 S W) (b : Below W.heap.size W W') : TwoR w db d fv wv i wq j a a2 m c2 S W' := ⟨h.ag.below b, h.s1.below b, h.s2.below b, below_keep b _ _ h.cw, h.hm⟩
/-- A file is read again. -/
theorem AgI.again {w : World} {db : Nat} {d : Dk} {fv : Value} {wa : Option Addr} {wn wc : Nat} {W : World} (h : AgI w db d fv (.slice wa wn wc) wn W) (hc : Crashed d) (hn : wn = (namesD d).length) (j : Nat) (hj : j < (namesD d).length) : ∃ wq, wa = some ⟨wq, 0, none⟩ ∧ Calls Try.prog 8 #[.pointer (some ⟨db, 0, none⟩), sv (namesD d)[j]] W fun e w' => ∃ a m c a2 c2, e = .returned (.tuple #[.slice a m c, .int .i64 0]) ∧ m ≤ c ∧ c ≤ 9223372036854775807 ∧ w'.cell? ⟨wq, j, none⟩ = some (.slice a2 m c2) ∧ m ≤ c2 ∧ Hid (∃ S, TwoR w db d fv (.slice wa wn wc) wn wq j a a2 m c2 S w') := by
  have h' := h
  obtain ⟨K, vs, h1, h2, h3, h4⟩ := h
  obtain ⟨e0, hne⟩ := hc.read (List.getElem_mem hj)
  have hrow := h3.row
  have hli : (((namesD d).take wn).map (readL d)).length = wn := by simp; omega
  rw [hli] at hrow
  obtain ⟨wa', wc', ew, p1, p2, p3⟩ := row_form hrow
  injection ew with ew1 ew2 ew3
  subst ew1
  obtain ⟨a2, n2, c2, x1, x2⟩ := h3.each j (by rw [hli, hn]; exact hj)
  have eS : (((namesD d).take wn).map (readL d))[j]'(by rw [hli, hn]; exact hj) = readL d (namesD d)[j] := by simp
  rw [eS] at x2
  rcases p3 with ⟨_, q0, _⟩ | ⟨wq, rfl, _, _, hcell⟩
  · omega
  refine ⟨wq, rfl, ?_⟩
  refine (read15_any h1.dk (namesD d)[j]).mono fun e w' ⟨v, e1, H⟩ => ?_
  obtain ⟨H1, H2⟩ := H.out
  obtain ⟨a, c, rfl, q1, q2, _⟩ := row_form H1
  unfold maxLen at q2
  have hs2 := x2.sec
  obtain ⟨_, c2', e2', z1, _, _⟩ := row_form x2.row
  injection e2' with _ e22 e23
  have hs1 : Rd (fun k => (Value.slice a (readL d (namesD d)[j]).length c).ownBlock = some k) (.slice a (readL d (namesD d)[j]).length c) (readL d (namesD d)[j]) w' := ⟨row_base H1, fun b hb => hb⟩
  refine ⟨a, _, c, a2, c2, by rw [e1, e0], q1, by omega, ?_, by rw [e23]; exact z1, hidb ⟨_, h'.below H2, hs1.sec.1, hs2.1.below H2, ?_, rfl⟩⟩
  · rw [← hs2.2]; exact below_keep H2 _ _ (hcell j _ x1)
  · rw [← hs2.2]; exact below_keep H2 _ _ (hcell j _ x1)
attribute [local go_sem high] eq_sec eq_sec0
set_option maxRecDepth 100000 in
set_option maxHeartbeats 8000000 in
theorem sectorAgain_any (la : Option Addr) (ln lc : Nat) (L : List Opn) (fa : Option Addr) (fn fc : Nat) (fates : List Int) (ga : Option Addr) (gn gc : Nat) (more : List Int) (w : World) (hl : L.length = ln) (hL : OpsAt w la L) (hLo : ∀ x ∈ L, x.ok) (hlc : ln ≤ maxLen) (hf : FatO (fun i => ¬ i < w.heap.size) w (.slice fa fn fc) fates) (hg : FatO (fun i => ¬ i < w.heap.size) w (.slice ga gn gc) more) : Calls Try.prog 6 #[.slice la ln lc, .slice fa fn fc, .slice ga gn gc] w fun e w' => e = .returned (.bool true) ∧ Below w.heap.size w w' := by
  have HN := hidb (new15_yes 1000 w (by decide) (by decide))
  have HU := hidb num15_any
  have HK := hidb knows15_any
  have HOl : Hid (∀ W j, Below w.heap.size w W → (hj : j < ln) → ∃ b off kd nn k v, la = some ⟨b, off, none⟩ ∧ W.cell? ⟨b, off + j * 5, none⟩ = some (.int .i64 kd) ∧ W.cell? ⟨b, off + j * 5 + 1, none⟩ = some (.int .i64 nn) ∧ W.cell? ⟨b, off + j * 5 + 2, none⟩ = some (sv k) ∧ W.cell? ⟨b, off + j * 5 + 3, none⟩ = some (sv v) ∧ Hid ((-9223372036854775808 ≤ nn ∧ nn ≤ 9223372036854775807) ∧ k.length ≤ 9223372036854775807 ∧ v.length ≤ 9223372036854775807)) := hidb fun W j hb hj => by
    obtain ⟨b, off, e, x0, x1, x2, x3, _⟩ := hL.at_ hb j (by omega)
    have := hLo _ (List.getElem_mem (by omega : j < L.length))
    exact ⟨b, off, _, _, _, _, e, x0, x1, x2, x3, hidb ⟨this.2.1, by have := this.2.2.1; unfold maxLen at this; omega, by have := this.2.2.2; unfold maxLen at this; omega⟩⟩
  have HWr : Hid (∀ db d W k nn v, Ls w (fun k => k < w.heap.size) db d W → ((-9223372036854775808 ≤ nn ∧ nn ≤ 9223372036854775807) ∧ k.length ≤ 9223372036854775807 ∧ v.length ≤ 9223372036854775807) → Calls Try.prog 10 #[.pointer (some ⟨db, 0, none⟩), sv k, .int .i64 nn, sv v] W fun e w' => ∃ x, e = .returned (.int .i64 x) ∧ Hid (∃ d, Ls w (fun k => k < w.heap.size) db d w')) := hidb fun db d W k nn v h1 h4 => (dwrite_all h1.dk k nn v h4.2.1 h4.2.2 h4.1).mono fun e w' ⟨e1, H⟩ => ⟨_, e1, hidb ⟨_, h1.next H.out⟩⟩
  have HSy : Hid (∀ db d W k, Ls w (fun k => k < w.heap.size) db d W → Calls Try.prog 11 #[.pointer (some ⟨db, 0, none⟩), sv k] W fun e w' => ∃ x, e = .returned (.int .i64 x) ∧ Hid (∃ d, Ls w (fun k => k < w.heap.size) db d w')) := hidb fun db d W k h1 => (dsync_any h1.dk k).mono fun e w' ⟨e1, H⟩ => ⟨_, e1, hidb ⟨_, h1.next H.out⟩⟩
  have fat2 : ∀ {K : Nat → Prop} {W : World} {va : Option Addr} {vn vc : Nat} {l : List Int}, FatO (fun i => ¬ i < w.heap.size) w (.slice va vn vc) l → (∀ k, k < w.heap.size → K k) → Below w.heap.size w W → FatO (fun i => ¬ K i) W (.slice va vn vc) l := fun hq hk hb => by
    obtain ⟨a, c, e, q1, q2, q3⟩ := hq
    refine ⟨a, c, e, q1, q2, ?_⟩
    rcases q3 with q3 | ⟨b, o, r1, r2, r3⟩
    · exact .inl q3
    · have hbw : b < w.heap.size := Classical.not_not.1 r2
      exact .inr ⟨b, o, r1, fun x => x (hk b hbw), fun j hj => (hb.cell (p := ⟨b, o + j, none⟩) hbw).trans (r3 j hj)⟩
  -- the first crash, and the files
  have HCr : Hid (∀ db d W, Ls w (fun k => k < w.heap.size) db d W → Calls Try.prog 7 #[.pointer (some ⟨db, 0, none⟩), .slice fa fn fc] W fun e w2 => e = .returned (.tuple #[]) ∧ Hid (Calls Try.prog 12 #[.pointer (some ⟨db, 0, none⟩)] w2 fun e w3 => ∃ a n c, e = .returned (.slice a n c) ∧ n ≤ c ∧ c ≤ 9223372036854775807 ∧ Hid (∃ d, Crashed d ∧ n = (namesD d).length ∧ AgI w db d (.slice a n c) (.slice none 0 0) 0 w3))) := hidb fun db d W h => by
    refine (dcrash_any h.dk fa fn fc fates (fat2 hf h.kl h.bl)).mono fun e w2 ⟨e1, H⟩ => ⟨e1, hidb ?_⟩
    have h2 := h.next H.out
    refine (files15_any h2.dk).mono fun e w3 ⟨a, n, c, e3, q1, q2, H3⟩ => ⟨a, n, c, e3, q1, q2, hidb ⟨crD d fates, crashed d fates, H3.out.1, ?_⟩⟩
    obtain ⟨hn, hrow, hb⟩ := H3.out
    have hrow' : w3.ownsRow w2.heap.size 9 1 (.slice a n c) (namesD (crD d fates)).length (svs (namesD (crD d fates))) := by rw [← hn]; exact hrow
    refine ⟨fun k => k < w.heap.size ∨ (Value.slice a n c).ownBlock = some k, [], ⟨h2.dk.more hb _ fun k hk => hrow.lt k hk, h2.bl.trans (hb.mono h2.bl.size), fun k hk => .inl hk⟩, ⟨?_, fun b hb => .inr hb⟩, ⟨World.ownsRow_nil _ _ _ _, fun b h => by simp [Value.ownBlock] at h, fun j hj => by simp at hj⟩, Nat.zero_le _⟩
    refine ⟨hrow'.1, ?_⟩
    rcases hrow'.2 with x | ⟨g, cap, cur, x1, x2, x3⟩
    · exact .inl x
    · exact .inr ⟨g, cap, cur, x1, Nat.le_trans h2.bl.size x2, x3⟩
  -- the second one
  have HCg : Hid (∀ db d a n c wv W, AgI w db d (.slice a n c) wv n W → Crashed d → n = (namesD d).length → n ≤ 9223372036854775807 → Calls Try.prog 7 #[.pointer (some ⟨db, 0, none⟩), .slice ga gn gc] W fun e w2 => e = .returned (.tuple #[]) ∧ Hid (Calls Try.prog 12 #[.pointer (some ⟨db, 0, none⟩)] w2 fun e w3 => ∃ a2 c2, e = .returned (.slice a2 n c2) ∧ Hid (Calls Try.prog 19 #[.slice a2 n c2, .slice a n c] w3 fun e w4 => e = .returned (.bool true) ∧ Hid (AgI w db d (.slice a n c) wv n w4)))) := hidb fun db d a n c wv W h hc hn hn2 => by
    obtain ⟨K, vs, h1, h2, h3, h4⟩ := h
    refine (dcrash_any h1.dk ga gn gc more (fat2 hg h1.kl h1.bl)).mono fun e w2 ⟨e1, H⟩ => ⟨e1, hidb ?_⟩
    have h1b := h1.next H.out
    rw [hc.again] at h1b
    have h2b := h2.kt H.out.2
    have h3b := h3.kt H.out.2
    refine (files15_any h1b.dk).mono fun e w3 ⟨a2, n2, c2, e3, q1, q2, H3⟩ => ?_
    obtain ⟨hn3, hrow, hb⟩ := H3.out
    have e4 : n2 = n := by omega
    subst e4
    refine ⟨a2, c2, e3, hidb ?_⟩
    have s1 := StrAt.row hrow
    have s2 : StrAt w3 a (namesD d) := (StrAt.row (n := n2) (c := c) (by rw [hn3]; exact row_below2 (by have := h2b.row; rw [hn3] at this; exact this) hb)).1
    refine (texts_same a2 a n2 c2 c (namesD d) w3 hn3 s1.1 s2 hn2).mono fun e w4 ⟨e5, k, ek⟩ => ⟨e5, hidb ?_⟩
    have hag : AgI w db d (.slice a n2 c) wv n2 w3 := ⟨K, vs, h1b.below hb, h2b.below hb, h3b.kt (Kt.below hb), h4⟩
    rw [ek]
    exact hag.below ⟨rfl, rfl, rfl, Nat.le_refl _, fun _ _ => rfl⟩
  have H0 : Hid (∀ db W, DkAt (fun k => k < w.heap.size) db (newD 1000) W ∧ Below w.heap.size w W → ∀ W', Below W.heap.size W W' → ∃ d, Ls w (fun k => k < w.heap.size) db d W') := hidb fun db W h W' hb => ⟨_, h.1.below hb, h.2.trans (hb.mono h.2.size), fun _ x => x⟩
  clear hL hLo hf hg hl fat2
  unfold maxLen at hlc
  go_enter Try.func6, Try.ntmps6
  go_wp2_with (first
    | (go_at_call 17; refine HN.out.mono ?_; clear HN; rintro e w1 ⟨db, rfl, D1⟩)
    | (go_at_call 9; refine (HU.out _ _).mono ?_; rintro e wn ⟨rfl, rfl⟩)
    | (go_at_call 16; refine (HK.out _).mono ?_; clear HK; rintro e w2 ⟨rfl, hb2⟩)
    | fail)
  replace H0 := hidb (H0.out db wn D1.out w2 hb2)
  clear D1 hb2
  go_loopw [9] (fun iv wr => ∃ i : Nat, iv = .int .i64 i ∧ i ≤ 100 ∧ i ≤ ln ∧ Hid (∃ d, Ls w (fun k => k < w.heap.size) db d wr)) (fun iv _ => 100 - (intOf iv).toNat)
  case atStart => exact ⟨0, rfl, by omega, by omega, H0⟩
  case round =>
    clear H0
    obtain ⟨i, rfl, hi1, hi2, HI⟩ := hrel
    by_cases hgo : i < ln ∧ i < 100
    · obtain ⟨d, hls⟩ := HI.out
      obtain ⟨b, off, kd, nn, k, v, rfl, x0, x1, x2, x3, HX⟩ := HOl.out wr i hls.bl hgo.1
      have hdr : Below wr.heap.size wr wr.drew := ⟨rfl, rfl, rfl, Nat.le_refl _, fun _ _ => rfl⟩
      have HC := hidb (HWr.out db d wr.drew k nn v (hls.below hdr) HX.out)
      have HS := hidb (HSy.out db d wr k hls)
      have hd1 : decide ((i : Int) < ln) = true := by simp; omega
      have hd2 : decide ((i : Int) < 100) = true := by simp; omega
      clear hls hdr
      by_cases hkd : kd = 0
      · subst hkd
        clear HS
        go_wp2_with fail
        go_region_with (first
          | (go_at_call 10; refine HC.out.mono ?_; clear HC; rintro e w3 ⟨x, rfl, H3⟩)
          | fail)
        all_goals go_wp2_with fail
        all_goals exact ⟨⟨i + 1, by go_num, by omega, by omega, H3⟩, by simp [intOf]; omega⟩
      · have hk0 : (kd == 0) = false := by simpa using hkd
        clear HC
        by_cases hkd1 : kd = 1
        · subst hkd1
          go_wp2_with (first
            | (go_at_call 11; refine HS.out.mono ?_; clear HS; rintro e w3 ⟨x, rfl, H3⟩)
            | fail)
          exact ⟨⟨i + 1, by go_num, by omega, by omega, H3⟩, by simp [intOf]; omega⟩
        · have hk1 : (kd == 1) = false := by simpa using hkd1
          clear HS
          go_wp2_with fail
          exact ⟨⟨i + 1, by go_num, by omega, by omega, HI⟩, by simp [intOf]; omega⟩
    · obtain ⟨d0, hls⟩ := HI.out
      have HT := hidb (HCr.out db d0 wr hls)
      clear hls HI HOl HWr HSy HCr
      go_wp2_with (first
        | (go_at_call 7; refine HT.out.mono ?_; clear HT; rintro e w6 ⟨rfl, HT2⟩)
        | (go_at_call 12; refine HT2.out.mono ?_; clear HT2; rintro e w7 ⟨a, n, c, rfl, hnc, hcm, H7⟩)
        | fail)
      all_goals as_aux_lemma => (
        obtain ⟨d, hcr, hnn, hag⟩ := H7.out
        have HAg := hidb hag
        have Hcr := hidb hcr
        have Hnn := hidb hnn
        clear H7 hag hcr hnn
        generalize (i : Int) = ii
        go_loopw [11, 12] (fun wv jv wr => ∃ j : Nat, jv = .int .i64 j ∧ j ≤ n ∧ (∃ wa wc, wv = .slice wa j wc ∧ j ≤ wc ∧ wc ≤ 9223372036854775807) ∧ Hid (AgI w db d (.slice a n c) wv j wr)) (fun _ jv _ => n - (intOf jv).toNat)
        case atStart => exact ⟨0, rfl, by omega, ⟨_, _, rfl, by omega, by omega⟩, HAg⟩
        case round =>
          clear HAg
          obtain ⟨j, rfl, hj, ⟨wa, wc, rfl, hw1, hw2⟩, HI⟩ := hrel
          obtain ⟨hbl, hnq, hnm⟩ := HI.out.name
          clear hnq
          by_cases hgo : j < n
          · have hjn : j < (namesD d).length := by rw [← Hnn.out]; exact hgo
            obtain ⟨q, rfl, x0⟩ := hnm j hjn
            have HR := hidb (HI.out.read Hcr.out hjn)
            have hd1 : decide ((j : Int) < n) = true := by simp; omega
            generalize (namesD d)[j] = nm at *
            clear hbl hnm HI
            go_wp2_with (first
              | (go_at_call 8; refine HR.out.mono ?_; clear HR; rintro e w8 ⟨a8, m8, c8, wa8, wc8, vs8, rfl, ⟨hm1, hm2, hm3⟩, ew, hw3, hw4, hj256, h31, h32, h33, H34⟩; injection ew with e1 e2 e3; subst e1 e3)
              | (go_at_call 9; refine (HU.out _ _).mono ?_; rintro e wn ⟨rfl, rfl⟩)
              | (at_builtin; refine wpList_appN _ rfl _ _ 52 rfl elemW15 w.heap.size _ j vs8 rfl h31 _ rfl 1 [.slice a8 m8 c8] h32 rfl (by simp [Value.oneCell']) (by unfold maxLen; omega) (by omega) h33 ?_; intro v' w5 hr5 hs5; have H5 := hidb (H34.out v' w5 hr5 hs5); obtain ⟨a5, c5, e5, hc5, hc6, _⟩ := row_form hr5; subst e5; unfold maxLen at hc6)
              | fail)
            exact ⟨⟨j + 1, by go_num, by omega, ⟨a5, c5, rfl, by omega, by omega⟩, H5⟩, by simp [intOf]; omega⟩
          · have e : j = n := by omega
            subst e
            have HT := hidb (HCg.out db d a j c _ wr HI.out Hcr.out Hnn.out (by omega))
            clear hbl hnm HI HCg
            go_wp2_with (first
              | (go_at_call 7; refine HT.out.mono ?_; clear HT; rintro e w8 ⟨rfl, HT2⟩)
              | (go_at_call 12; refine HT2.out.mono ?_; clear HT2; rintro e w9 ⟨a2, c2, rfl, HT3⟩)
              | (go_at_call 19; refine HT3.out.mono ?_; clear HT3; rintro e w10 ⟨rfl, HAg⟩)
              | fail)
            go_loopw [15] (fun jv wr => ∃ i : Nat, jv = .int .i64 i ∧ i ≤ j ∧ Hid (AgI w db d (.slice a j c) (.slice wa j wc) j wr)) (fun jv _ => j - (intOf jv).toNat)
            case atStart => exact ⟨0, rfl, by omega, HAg⟩
            case round =>
              clear HAg
              obtain ⟨i, rfl, hi, HI⟩ := hrel
              obtain ⟨hbl, hnq, hnm⟩ := HI.out.name
              clear hnq
              by_cases hgo2 : i < j
              · have hin : i < (namesD d).length := by rw [← Hnn.out]; exact hgo2
                obtain ⟨q, rfl, x0⟩ := hnm i hin
                obtain ⟨wq, rfl, hR⟩ := HI.out.again Hcr.out Hnn.out i hin
                have HR := hidb hR
                have hd1 : decide ((i : Int) < j) = true := by simp; omega
                generalize (namesD d)[i] = nm at *
                clear hbl hnm HI hR
                go_wp2_with (first
                  | (go_at_call 8; refine HR.out.mono ?_; clear HR; rintro e w8 ⟨a8, m8, c8, b8, d8, rfl, hm1, hm2, hcw, hm3, H8⟩)
                  | (go_at_call 9; refine (HU.out _ _).mono ?_; rintro e wn ⟨rfl, rfl⟩)
                  | fail)
                obtain ⟨S, hS⟩ := H8.out
                have HS := hidb hS
                clear H8 hS hcw
                go_loopw [18] (fun kv wr => ∃ k : Nat, kv = .int .i64 k ∧ k ≤ m8 ∧ Hid (TwoR w db d (.slice (some ⟨q, 0, none⟩) j c) (.slice (some ⟨wq, 0, none⟩) j wc) j wq i a8 b8 m8 d8 S wr)) (fun kv _ => m8 - (intOf kv).toNat)
                case atStart => exact ⟨0, rfl, by omega, HS⟩
                case round =>
                  clear HS
                  obtain ⟨k, rfl, hk, HS⟩ := hrel
                  by_cases hgo3 : k < m8
                  · obtain ⟨y, hy⟩ : ∃ y, S[k]? = some y := ⟨S[k]'(by have := HS.out.hm; omega), List.getElem?_eq_getElem _⟩
                    obtain ⟨p1, rfl, hp1, c10, c11⟩ := HS.out.s1 k y hy
                    obtain ⟨p2, rfl, hp2, c20, c21⟩ := HS.out.s2 k y hy
                    have cw := HS.out.cw
                    have hd2 : decide ((k : Int) < m8) = true := by simp; omega
                    have hkd : k < m8 := hgo3
                    have hkd8 : k < d8 := by omega
                    have HNx : Hid (∀ m, TwoR w db d (.slice (some ⟨q, 0, none⟩) j c) (.slice (some ⟨wq, 0, none⟩) j wc) j wq i (some ⟨p1, 0, none⟩) (some ⟨p2, 0, none⟩) m8 d8 S (wr.drewN m)) := hidb fun m => HS.out.below ⟨rfl, rfl, rfl, Nat.le_refl _, fun _ _ => rfl⟩
                    obtain ⟨yb, yd⟩ := y
                    clear hy HS
                    go_wp2_with fail
                    clear hj hgo x0 hin hd1
                    go_quiet (fail)
                    go_wp2_with fail
                    exact ⟨⟨k + 1, cnt_f k, hgo3, hidb (HNx.out _)⟩, by simp [intOf]; omega⟩
                  · have hAg := hidb HS.out.ag
                    clear HS
                    go_wp2_with fail
                    exact ⟨⟨i + 1, by go_num, by omega, hAg⟩, by simp [intOf]; omega⟩
              · have hb2 := hidb hbl
                clear hbl hnm HI
                go_wp2_with fail
                go_ret
                exact ⟨rfl, hb2.out⟩)
end Go.Proofs.Ytghhhlbpolhkhaa
