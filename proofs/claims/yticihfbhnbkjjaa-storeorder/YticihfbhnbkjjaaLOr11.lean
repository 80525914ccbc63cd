/- Layer 11: the law StoreOrder. -/
import Derived.Test.YticihfbhnbkjjaaKL
import Derived.Test.YticihfbhnbkjjaaKQ
import Derived.Deep.QuietTactic
import Derived.BigQuiet
namespace Go.Proofs.Yticihfbhnbkjjaa
open Go.RowKit
theorem wrap_smallK {x : Int} (h0 : -1000000 ≤ x) (h1 : x ≤ 1000000) : IntKind.i64.wrap x = x := by
  simp only [IntKind.wrap, IntKind.bits, IntKind.signed]
  simp
  omega
theorem scan_all (M : Kvs) : scanL M [] [] 0 = M := by
  unfold scanL
  rw [if_pos rfl, cutL, if_pos rfl, fromL_nil]
theorem scan_upto (M : Kvs) (mid : Bt) (h : mid ≠ []) : scanL M [] mid 0 = M.takeWhile fun x => ltB x.1 mid := by
  unfold scanL
  rw [if_pos rfl, cutL, if_neg h, fromL_nil]
theorem scan_on (M : Kvs) (mid : Bt) : scanL M mid [] 0 = fromL M mid := by
  unfold scanL
  rw [if_pos rfl, cutL, if_pos rfl]
theorem parts_of {M : Kvs} (s : SrtL M) (mid : Bt) : (M.takeWhile fun x => ltB x.1 mid) ++ fromL M mid = M := by
  have h1 : fromL M mid = M.drop (posL M mid) := by
    have hsp : M = M.take (posL M mid) ++ M.drop (posL M mid) := (List.take_append_drop _ _).symm
    have ha : fromL (M.take (posL M mid)) mid = [] := List.filter_eq_nil_iff.2 fun x hx => by
      have := pos_before x hx
      simp only [decide_not, Bool.not_eq_eq_eq_not, Bool.not_true, decide_eq_false_iff_not, Classical.not_not]
      exact this
    have hb : fromL (M.drop (posL M mid)) mid = M.drop (posL M mid) := List.filter_eq_self.2 fun x hx => by
      obtain ⟨j, hj, rfl⟩ := List.getElem_of_mem hx
      rw [List.getElem_drop]
      rw [List.length_drop] at hj
      have : ¬ klt M[posL M mid + j].1 mid := by
        by_cases e : j = 0
        · subst e; exact pos_at (by omega)
        · exact klt_asymm (pos_after s (by omega) (by omega))
      exact decide_eq_true this
    have : fromL M mid = fromL (M.take (posL M mid)) mid ++ fromL (M.drop (posL M mid)) mid := by
      unfold fromL
      rw [← List.filter_append, List.take_append_drop]
    rw [this, ha, hb]
    rfl
  have h2 : (M.takeWhile fun x => ltB x.1 mid) = M.take (posL M mid) := List.prefix_iff_eq_take.1 (List.takeWhile_prefix _)
  rw [h1, h2, List.take_append_drop]
/-- The key ahead of a place. -/
def preK (M : Kvs) (i : Nat) : Bt := if h : 0 < i ∧ i ≤ M.length then M[i - 1].1 else []
theorem preK_succ {M : Kvs} {i : Nat} (h : i < M.length) : preK M (i + 1) = M[i].1 := by
  unfold preK
  rw [dif_pos ⟨by omega, by omega⟩]
  rfl
theorem nil_klt {k : Bt} (h : k ≠ []) : klt [] k := by
  cases k with
  | nil => exact absurd rfl h
  | cons c t => unfold klt; simp [Op.bytesLess]
theorem not_klt_nil (k : Bt) : ¬ klt k [] := by unfold klt; cases k <;> simp [Op.bytesLess]
theorem next_pre {M : Kvs} (s : SrtL M) {i : Nat} (h : i < M.length) (hne : M[i].1 ≠ []) : nextL M (preK M i) = some M[i].1 := by
  have hsr := List.pairwise_iff_getElem.1 s
  refine next_is s (mem_get s (List.getElem_mem h)) ?_ fun x hx hk hq => ?_
  · unfold preK
    split
    · rename_i hp
      exact hsr _ _ (by omega) h (by omega)
    · exact nil_klt hne
  · obtain ⟨j, hj, rfl⟩ := List.getElem_of_mem hx
    have hji : j < i := by
      rcases Nat.lt_or_ge j i with c | c
      · exact c
      · exfalso
        by_cases e : j = i
        · subst e; exact klt_irr _ hq
        · exact klt_asymm hq (hsr _ _ h hj (by omega))
    have : preK M i = M[i - 1].1 := by
      unfold preK
      rw [dif_pos ⟨by omega, by omega⟩]
    rw [this] at hk
    by_cases e : j = i - 1
    · subst e; exact klt_irr _ hk
    · exact klt_asymm hk (hsr _ _ hj (by omega) (by omega))
theorem next_last {M : Kvs} (s : SrtL M) : nextL M (preK M M.length) = none := by
  have hsr := List.pairwise_iff_getElem.1 s
  refine next_not s fun x hx hk => ?_
  obtain ⟨j, hj, rfl⟩ := List.getElem_of_mem hx
  have : preK M M.length = M[M.length - 1].1 := by
    unfold preK
    rw [dif_pos ⟨by omega, by omega⟩]
  rw [this] at hk
  by_cases e : j = M.length - 1
  · subst e; exact klt_irr _ hk
  · exact klt_asymm hk (hsr _ _ hj (by omega) (by omega))
set_option maxRecDepth 100000 in
set_option maxHeartbeats 4000000 in
theorem storeOrder_any (L : List Opn) (a : Option Addr) (n cap : Nat) (mid : Bt) (w : World) (hn : n = L.length) (hA : OpsAt w a L) (hok : ∀ x ∈ L, x.ok) (hlen : n ≤ 9223372036854775) :
    Calls Try.prog 4 #[.slice a n cap, sv mid] w fun e w' => e = .returned (.bool true) ∧ Below w.heap.size w w' := by
  have HF := hidb (filled_any L a n cap w hn hA hok hlen)
  have HK := hidb knows11_any
  have hMO := fill_ok (L.take 700)
  generalize fillL (L.take 700) = M at HF hMO
  have HM := hidb hMO
  have HS1 : Hid (∀ sb rb W1 W2, FJ sb rb M M w W1 → Below W1.heap.size W1 W2 → Calls Try.prog 25 #[.pointer (some ⟨sb, 0, none⟩), sv [], sv [], .int .i64 0] W2 fun e w' => ∃ va k vc, e = .returned (.slice va k vc) ∧ k ≤ 512 ∧ Hid (k = M.length ∧ PRow va k vc M w' ∧ ∃ tb g, StAt sb tb g M w' ∧ Below w.heap.size w w')) := hidb fun sb rb W1 W2 hJ hb => by
    have hJ2 := hJ.below hb
    obtain ⟨tb, g, hst⟩ := hJ2.st
    refine (scan_f hst hMO.len [] [] 0 (by decide)).mono ?_
    rintro e w' ⟨va, k, vc, e1, e2, H⟩
    have hp := H.out.1
    rw [scan_all] at hp
    exact ⟨va, k, vc, e1, e2, hidb ⟨hp.1, hp, tb, g, hst.below H.out.2, hJ2.bel.trans (H.out.2.mono hJ2.bel.size)⟩⟩
  clear hMO hA hok hn
  go_enter Try.func4, Try.ntmps4
  go_wp2_with (first
    | (go_at_call 5; refine HF.out.mono ?_; clear HF; rintro e w1 ⟨sb, rb, rfl, J1⟩)
    | (go_at_call 7; refine (HK.out _).mono ?_; clear HK; rintro e w2 ⟨rfl, hb2⟩; replace HS1 := hidb (HS1.out sb rb _ _ J1.out hb2); clear J1 hb2)
    | (go_at_call 25; refine HS1.out.mono ?_; clear HS1; rintro e w3 ⟨va, k, vc, rfl, hk5, K3⟩)
    | fail)
  obtain ⟨hkM, hrow, tb, g, hst, hbel⟩ := K3.out
  have Hk := hidb hkM
  have HR := hidb hrow
  have HT := hidb hst
  have HB := hidb hbel
  clear K3 hkM hrow hst hbel
  go_loopw [8, 9] (fun kv iv wr => ∃ i : Nat, iv = .int .i64 i ∧ i ≤ k ∧ kv = sv (preK M i) ∧ ∃ m, wr = w3.drewN m) (fun _ iv _ => k - (intOf iv).toNat)
  case atStart => exact ⟨0, rfl, Nat.zero_le _, rfl, 0, rfl⟩
  case round =>
    obtain ⟨i, rfl, hi, rfl, m, hwr⟩ := hrel
    have hT : StAt sb tb g M wr := by rw [hwr]; exact HT.out.drewN m
    have hR : PRow va k vc M wr := by rw [hwr]; exact HR.out.drewN m
    have HW := hidb hwr
    clear hwr
    by_cases hlt : i < k
    · have hil : i < M.length := by rw [← Hk.out]; exact hlt
      have HG : Hid (Calls Try.prog 26 #[.pointer (some ⟨sb, 0, none⟩), sv M[i].1] wr fun e w' => e = .returned (.tuple #[sv M[i].2, .bool true]) ∧ ∃ m, w' = wr.drewN m) := hidb (by
        have := sget_any sb tb g M wr M[i].1 hT
        rw [getL_some HM.out.srt (k := M[i].1) (v := M[i].2) (List.getElem_mem hil)] at this
        exact this)
      have HN : Hid (M[i].1 ≠ [] → ∀ q, Calls Try.prog 27 #[.pointer (some ⟨sb, 0, none⟩), sv (preK M i)] (wr.drewN q) fun e w' => e = .returned (.tuple #[sv M[i].1, .bool true]) ∧ ∃ m, w' = (wr.drewN q).drewN m) := hidb fun hne q => by
        have := snext_any sb tb g M (wr.drewN q) (preK M i) (hT.drewN q)
        rw [next_pre HM.out.srt hil hne] at this
        exact this
      have HP := hidb (preK_succ hil)
      obtain ⟨gr, eg, hgr, e0, e1⟩ := hR.at hil
      rw [eg]
      have HEg := hidb eg
      by_cases h0 : i = 0
      · subst h0
        by_cases hne : M[0].1 = []
        · have HP2 : Hid (preK M (0 + 1) = preK M 0) := hidb (by rw [HP.out, hne]; rfl)
          rw [hne] at HG e0
          clear HN HP hT hR eg hne
          generalize M[0].2 = xv at HG e1
          go_wp2_with (first
            | (go_at_call 26; refine HG.out.mono ?_; clear HG; rintro e w4 ⟨rfl, m4, rfl⟩)
            | fail)
          obtain ⟨W4, hW4⟩ : ∃ W4, W4 = wr.drewN m4 := ⟨_, rfl⟩
          have f0 : W4.cell? ⟨gr, 0, none⟩ = some (sv []) := by rw [hW4]; exact e0
          have f1 : W4.cell? ⟨gr, 1, none⟩ = some (sv xv) := by rw [hW4]; exact e1
          rw [← hW4]
          have HW4 : Hid (∃ q, W4 = w3.drewN q) := hidb ⟨m + m4, by rw [hW4, HW.out, World.drewN_drewN]⟩
          clear hW4 e0 e1
          go_quiet (fail)
          go_wp2_with fail
          obtain ⟨q, hq⟩ := HW4.out
          exact ⟨⟨1, rfl, by omega, by rw [HP2.out], q + nq, by rw [hq, World.drewN_drewN]⟩, by simp [intOf]; omega⟩
        · have HN2 := hidb (HN.out hne)
          have hem : M[0].1.isEmpty = false := by cases e : M[0].1; exact absurd e hne; rfl
          clear HN hT hR eg hne
          generalize M[0].2 = xv at HG e1
          generalize M[0].1 = xk at HG e0 HN2 HP hem
          go_wp2_with (first
            | (go_at_call 26; refine HG.out.mono ?_; clear HG; rintro e w4 ⟨rfl, m4, rfl⟩)
            | fail)
          obtain ⟨W4, hW4⟩ : ∃ W4, W4 = wr.drewN m4 := ⟨_, rfl⟩
          have f0 : W4.cell? ⟨gr, 0, none⟩ = some (sv xk) := by rw [hW4]; exact e0
          have f1 : W4.cell? ⟨gr, 1, none⟩ = some (sv xv) := by rw [hW4]; exact e1
          rw [← hW4]
          have HW4 : Hid (∃ q, W4 = w3.drewN q) := hidb ⟨m + m4, by rw [hW4, HW.out, World.drewN_drewN]⟩
          have HN3 : Hid (∀ q, Calls Try.prog 27 #[.pointer (some ⟨sb, 0, none⟩), sv (preK M 0)] (W4.drewN q) fun e w' => e = .returned (.tuple #[sv xk, .bool true]) ∧ ∃ m, w' = (W4.drewN q).drewN m) := hidb fun q => by
            rw [hW4, World.drewN_drewN]
            exact HN2.out _
          clear hW4 e0 e1 HN2
          go_quiet (fail)
          go_wp2_with (first
            | (go_at_call 27; refine (HN3.out _).mono ?_; clear HN3; rintro e w5 ⟨rfl, m5, rfl⟩)
            | fail)
          obtain ⟨q, hq⟩ := HW4.out
          exact ⟨⟨1, rfl, by omega, by rw [HP.out], q + (nq + m5), by rw [hq, World.drewN_drewN]⟩, by simp [intOf]; omega⟩
      · obtain ⟨j, rfl⟩ : ∃ j, i = j + 1 := ⟨i - 1, by omega⟩
        have hjl : j < M.length := by omega
        have hlts : klt M[j].1 M[j + 1].1 := (List.pairwise_iff_getElem.1 HM.out.srt) _ _ hjl hil (by omega)
        have hne : M[j + 1].1 ≠ [] := fun e => by rw [e] at hlts; exact not_klt_nil _ hlts
        have HN2 := hidb (HN.out hne)
        have hem : M[j + 1].1.isEmpty = false := by cases e : M[j + 1].1; exact absurd e hne; rfl
        have hb1 : Op.bytesLess M[j + 1].1 M[j].1 = false := by simpa using klt_asymm hlts
        have hb2 : (M[j + 1].1 == M[j].1) = false := beq_eq_false_iff_ne.2 (klt_ne hlts).symm
        obtain ⟨gr2, eg2, _, d0, _⟩ := hR.at hjl
        obtain rfl : gr2 = gr := by rw [eg] at eg2; injection eg2 with e; injection e with e; exact e.symm
        clear HN hT hR eg hne hlts eg2
        generalize M[j + 1].2 = xv at HG e1
        generalize M[j + 1].1 = xk at HG e0 HN2 HP hem hb1 hb2
        generalize M[j].1 = yk at d0 hb1 hb2
        go_wp2_with (first
          | (go_at_call 26; refine HG.out.mono ?_; clear HG; rintro e w4 ⟨rfl, m4, rfl⟩)
          | fail)
        obtain ⟨W4, hW4⟩ : ∃ W4, W4 = wr.drewN m4 := ⟨_, rfl⟩
        have f0 : W4.cell? ⟨gr2, (j + 1) * 2, none⟩ = some (sv xk) := by rw [hW4]; exact e0
        have f1 : W4.cell? ⟨gr2, (j + 1) * 2 + 1, none⟩ = some (sv xv) := by rw [hW4]; exact e1
        have f2 : W4.cell? ⟨gr2, j * 2, none⟩ = some (sv yk) := by rw [hW4]; exact d0
        rw [← hW4]
        have HW4 : Hid (∃ q, W4 = w3.drewN q) := hidb ⟨m + m4, by rw [hW4, HW.out, World.drewN_drewN]⟩
        have HN3 : Hid (∀ q, Calls Try.prog 27 #[.pointer (some ⟨sb, 0, none⟩), sv (preK M (j + 1))] (W4.drewN q) fun e w' => e = .returned (.tuple #[sv xk, .bool true]) ∧ ∃ m, w' = (W4.drewN q).drewN m) := hidb fun q => by
          rw [hW4, World.drewN_drewN]
          exact HN2.out _
        clear hW4 e0 e1 HN2 d0
        go_quiet (fail)
        go_wp2_with (first
          | (go_at_call 27; refine (HN3.out _).mono ?_; clear HN3; rintro e w5 ⟨rfl, m5, rfl⟩)
          | fail)
        obtain ⟨q, hq⟩ := HW4.out
        exact ⟨⟨j + 1 + 1, by go_num, by omega, by rw [HP.out], q + (nq + m5), by rw [hq, World.drewN_drewN]⟩, by simp [intOf]; omega⟩
    · have hik : i = M.length := by rw [← Hk.out]; omega
      have HN : Hid (Calls Try.prog 27 #[.pointer (some ⟨sb, 0, none⟩), sv (preK M i)] wr fun e w' => e = .returned (.tuple #[sv [], .bool false]) ∧ ∃ m, w' = wr.drewN m) := hidb (by
        have := snext_any sb tb g M wr (preK M i) hT
        rw [hik, next_last HM.out.srt] at this
        rw [hik]
        exact this)
      have HL : Hid (∀ q, Calls Try.prog 28 #[.pointer (some ⟨sb, 0, none⟩)] (wr.drewN q) fun e w' => e = .returned (.int .i64 (k : Nat)) ∧ w' = wr.drewN q) := hidb fun q => by
        rw [Hk.out]
        exact slen_any sb tb g M (wr.drewN q) (hT.drewN q)
      have HEnd : Hid (∀ q, Below w.heap.size w (wr.drewN q)) := hidb fun q => below_drewN (by rw [HW.out]; exact below_drewN HB.out m) q
      clear hik
      by_cases hmid : mid = []
      · subst hmid
        go_wp2_with (first
          | (go_at_call 27; refine HN.out.mono ?_; clear HN; rintro e w4 ⟨rfl, m4, rfl⟩)
          | (go_at_call 28; refine (HL.out _).mono ?_; clear HL; rintro e w5 ⟨rfl, rfl⟩)
          | fail)
        go_ret
        exact ⟨rfl, HEnd.out _⟩
      · have hem : mid.isEmpty = false := by cases mid; exact absurd rfl hmid; rfl
        have hparts := parts_of HM.out.srt mid
        have HS1 : Hid (∀ q, Calls Try.prog 25 #[.pointer (some ⟨sb, 0, none⟩), sv [], sv mid, .int .i64 0] (wr.drewN q) fun e w' => ∃ xa n1 xc, e = .returned (.slice xa n1 xc) ∧ n1 ≤ 512 ∧ Hid (PRow xa n1 xc (M.takeWhile fun x => ltB x.1 mid) w' ∧ PRow va k vc M w' ∧ Below w.heap.size w w') ∧ Hid (Calls Try.prog 25 #[.pointer (some ⟨sb, 0, none⟩), sv mid, sv [], .int .i64 0] w' fun e w2 => ∃ ya n2 yc, e = .returned (.slice ya n2 yc) ∧ n2 ≤ 512 ∧ Hid (PRow xa n1 xc (M.takeWhile fun x => ltB x.1 mid) w2 ∧ PRow ya n2 yc (fromL M mid) w2 ∧ PRow va k vc M w2 ∧ Below w.heap.size w w2))) := hidb fun q => by
          refine (scan_f (hT.drewN q) HM.out.len [] mid 0 (by decide)).mono ?_
          rintro e w' ⟨xa, n1, xc, e1, e2, H⟩
          have hp := H.out.1
          rw [scan_upto M mid hmid] at hp
          have hb1 := (HEnd.out q).trans (H.out.2.mono (HEnd.out q).size)
          have hr1 := (hR.drewN q).below H.out.2
          refine ⟨xa, n1, xc, e1, e2, hidb ⟨hp, hr1, hb1⟩, hidb ?_⟩
          refine (scan_f ((hT.drewN q).below H.out.2) HM.out.len mid [] 0 (by decide)).mono ?_
          rintro e w2 ⟨ya, n2, yc, f1, f2, H2⟩
          have hp2 := H2.out.1
          rw [scan_on M mid] at hp2
          exact ⟨ya, n2, yc, f1, f2, hidb ⟨hp.below H2.out.2, hp2, hr1.below H2.out.2, hb1.trans (H2.out.2.mono hb1.size)⟩⟩
        have HPt := hidb hparts
        clear hT hR hparts hmid
        go_wp2_with (first
          | (go_at_call 27; refine HN.out.mono ?_; clear HN; rintro e w4 ⟨rfl, m4, rfl⟩)
          | (go_at_call 28; refine (HL.out _).mono ?_; clear HL; rintro e w5 ⟨rfl, rfl⟩)
          | (go_at_call 25; refine (HS1.out _).mono ?_; clear HS1; rintro e w6 ⟨xa, n1, xc, rfl, h1, K6, HS2⟩)
          | (go_at_call 25; refine HS2.out.mono ?_; clear HS2 K6; rintro e w7 ⟨ya, n2, yc, rfl, h2, K7⟩)
          | fail)
        obtain ⟨hxr, hyr, hmr, hbl⟩ := K7.out
        have HX := hidb (And.intro hxr (And.intro hyr hmr))
        have HBl := hidb hbl
        have Hs : Hid (k = n1 + n2) := hidb (by rw [Hk.out, hxr.1, hyr.1, ← List.length_append, HPt.out])
        clear K7 hxr hyr hmr hbl
        go_loopw [18] (fun iv wr2 => ∃ i : Nat, iv = .int .i64 i ∧ i ≤ k ∧ Hid (Below w7.heap.size w7 wr2)) (fun iv _ => k - (intOf iv).toNat)
        case atStart => exact ⟨0, rfl, Nat.zero_le _, hidb (Below.refl _ _)⟩
        case round =>
          obtain ⟨i2, rfl, hi2, HB2⟩ := hrel
          by_cases hlt2 : i2 < k
          · have hil : i2 < M.length := by rw [← Hk.out]; exact hlt2
            obtain ⟨hxr, hyr, hmr⟩ := HX.out
            obtain ⟨gm, em, hgm, e0, e1⟩ := hmr.at hil
            have b0 : wr.cell? ⟨gm, i2 * 2, none⟩ = some (sv M[i2].1) := (HB2.out.cell (p := ⟨gm, i2 * 2, none⟩) hgm).trans e0
            have b1 : wr.cell? ⟨gm, i2 * 2 + 1, none⟩ = some (sv M[i2].2) := (HB2.out.cell (p := ⟨gm, i2 * 2 + 1, none⟩) hgm).trans e1
            by_cases hin : i2 < n1
            · have hil1 : i2 < (M.takeWhile fun x => ltB x.1 mid).length := by rw [← hxr.1]; exact hin
              obtain ⟨gx, ex, hgx, x0, x1⟩ := hxr.at hil1
              have heq : (M.takeWhile fun x => ltB x.1 mid)[i2] = M[i2] := (List.takeWhile_prefix _).getElem hil1
              rw [heq] at x0 x1
              have hd1 : decide ((i2 : Int) < n1) = true := by simp; omega
              have hd2 : decide ((n1 : Int) ≤ i2) = false := by simp; omega
              have HD3 : Hid (decide (i2 < n1) = true ∧ decide (n1 ≤ i2) = false) := hidb ⟨by simp; omega, by simp; omega⟩
              have y0 : ∀ o, (wr.alloc o).cell? ⟨gx, i2 * 2, none⟩ = some (sv M[i2].1) := fun o => ((HB2.out.alloc HB2.out.size o).cell (p := ⟨gx, i2 * 2, none⟩) hgx).trans x0
              have y1 : ∀ o, (wr.alloc o).cell? ⟨gx, i2 * 2 + 1, none⟩ = some (sv M[i2].2) := fun o => ((HB2.out.alloc HB2.out.size o).cell (p := ⟨gx, i2 * 2 + 1, none⟩) hgx).trans x1
              rw [em, ex]
              have HEm := hidb (And.intro em ex)
              have HBn : Hid (∀ o q, Below w7.heap.size w7 ((wr.alloc o).drewN q)) := hidb fun o q => below_drewN (HB2.out.alloc HB2.out.size o) q
              clear hxr hyr hmr e0 e1 x0 x1 heq em ex
              generalize M[i2] = x at b0 b1 y0 y1
              obtain ⟨xk, xv⟩ := x
              simp only at b0 b1 y0 y1
              have z0 := Lib.cell_of_heap (heap_alloc_new wr (.cells #[sv xk, sv xv] 56)) 0
              have z1 := Lib.cell_of_heap (heap_alloc_new wr (.cells #[sv xk, sv xv] 56)) 1
              replace z0 : (wr.alloc (.cells #[sv xk, sv xv] 56)).cell? ⟨wr.heap.size, 0, none⟩ = some (sv xk) := z0
              replace z1 : (wr.alloc (.cells #[sv xk, sv xv] 56)).cell? ⟨wr.heap.size, 1, none⟩ = some (sv xv) := z1
              go_wp2_with fail
              obtain ⟨W8, hW8⟩ : ∃ W8, W8 = wr.alloc (.cells #[sv xk, sv xv] 56) := ⟨_, rfl⟩
              have f0 : W8.cell? ⟨gx, i2 * 2, none⟩ = some (sv xk) := by rw [hW8]; exact y0 _
              have f1 : W8.cell? ⟨gx, i2 * 2 + 1, none⟩ = some (sv xv) := by rw [hW8]; exact y1 _
              rw [← hW8] at z0 z1 ⊢
              have HB8 : Hid (∀ q, Below w7.heap.size w7 (W8.drewN q)) := hidb fun q => by rw [hW8]; exact HBn.out _ q
              clear hW8 y0 y1 HBn
              obtain ⟨hd3, hd4⟩ := HD3.out
              go_quiet (fail)
              go_wp2_with fail
              exact ⟨⟨i2 + 1, by go_num, by omega, hidb (HB8.out _)⟩, by simp [intOf]; omega⟩
            · obtain ⟨j, hij⟩ : ∃ j, i2 = n1 + j := ⟨i2 - n1, by omega⟩
              have hjn : j < n2 := by have := Hs.out; omega
              have hil1 : j < (fromL M mid).length := by rw [← hyr.1]; exact hjn
              obtain ⟨gx, ex, hgx, x0, x1⟩ := hyr.at hil1
              have heq : (fromL M mid)[j] = M[i2] := by
                have h3 : ((M.takeWhile fun x => ltB x.1 mid) ++ fromL M mid)[i2]? = M[i2]? := by rw [HPt.out]
                rw [List.getElem?_append_right (by rw [← hxr.1]; omega), ← hxr.1, show i2 - n1 = j by omega, List.getElem?_eq_getElem hil1, List.getElem?_eq_getElem hil] at h3
                exact Option.some.inj h3
              rw [heq] at x0 x1
              have HD3 : Hid (decide (i2 < n1) = false ∧ decide (n1 ≤ i2) = true ∧ decide (n2 ≤ j) = false ∧ IntKind.i64.wrap ((i2 : Int) - n1) = (j : Int)) := hidb ⟨by simp; omega, by simp; omega, by simp; omega, by rw [show (i2 : Int) - n1 = (j : Int) by omega]; exact wrap_smallK (by omega) (by omega)⟩
              have Hij := hidb hij
              clear hij
              have y0 : ∀ o, (wr.alloc o).cell? ⟨gx, j * 2, none⟩ = some (sv M[i2].1) := fun o => ((HB2.out.alloc HB2.out.size o).cell (p := ⟨gx, j * 2, none⟩) hgx).trans x0
              have y1 : ∀ o, (wr.alloc o).cell? ⟨gx, j * 2 + 1, none⟩ = some (sv M[i2].2) := fun o => ((HB2.out.alloc HB2.out.size o).cell (p := ⟨gx, j * 2 + 1, none⟩) hgx).trans x1
              rw [em, ex]
              have HEm := hidb (And.intro em ex)
              have HBn : Hid (∀ o q, Below w7.heap.size w7 ((wr.alloc o).drewN q)) := hidb fun o q => below_drewN (HB2.out.alloc HB2.out.size o) q
              clear hxr hyr hmr e0 e1 x0 x1 heq em ex
              generalize M[i2] = x at b0 b1 y0 y1
              obtain ⟨xk, xv⟩ := x
              simp only at b0 b1 y0 y1
              have z0 := Lib.cell_of_heap (heap_alloc_new wr (.cells #[sv xk, sv xv] 56)) 0
              have z1 := Lib.cell_of_heap (heap_alloc_new wr (.cells #[sv xk, sv xv] 56)) 1
              replace z0 : (wr.alloc (.cells #[sv xk, sv xv] 56)).cell? ⟨wr.heap.size, 0, none⟩ = some (sv xk) := z0
              replace z1 : (wr.alloc (.cells #[sv xk, sv xv] 56)).cell? ⟨wr.heap.size, 1, none⟩ = some (sv xv) := z1
              go_wp2_with fail
              obtain ⟨W8, hW8⟩ : ∃ W8, W8 = wr.alloc (.cells #[sv xk, sv xv] 56) := ⟨_, rfl⟩
              have f0 : W8.cell? ⟨gx, j * 2, none⟩ = some (sv xk) := by rw [hW8]; exact y0 _
              have f1 : W8.cell? ⟨gx, j * 2 + 1, none⟩ = some (sv xv) := by rw [hW8]; exact y1 _
              rw [← hW8] at z0 z1 ⊢
              have HB8 : Hid (∀ q, Below w7.heap.size w7 (W8.drewN q)) := hidb fun q => by rw [hW8]; exact HBn.out _ q
              clear hW8 y0 y1 HBn
              obtain ⟨hd3, hd4, hd5, hd6⟩ := HD3.out
              go_quiet (fail)
              go_wp2_with fail
              exact ⟨⟨i2 + 1, by go_num, by omega, hidb (HB8.out _)⟩, by simp [intOf]; omega⟩
          · have hend : ((n1 : Int) + n2 == k) = true := by rw [Hs.out]; simp
            have HE2 := hidb hend
            clear hend
            go_wp2_with fail
            go_ret
            refine ⟨?_, HBl.out.trans (HB2.out.mono HBl.out.size)⟩
            show Ending.returned (Value.bool ((n1 : Int) + n2 == k)) = _
            rw [HE2.out]
end Go.Proofs.Yticihfbhnbkjjaa
