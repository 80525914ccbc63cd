/- Layer 11: a store read out of any bytes. Layer 11: store.Read of any bytes. Layer 11: store.Read of any bytes, whole. Layer 11: the document's Get and Next. Layer 11: the document's Read of any bytes: its state. -/
import Derived.Test.YtcjakgogdbfagaaGreatKY
import Derived.Test.YtcjakgogdbfagaaGreatRGd
import Derived.Test.YtcjakgogdbfagaaGreatKL
import Derived.Deep.RegionHeld3
import Derived.Deep.QuietTactic
import Derived.BigQuiet
namespace Go.Proofs.YtcjakgogdbfagaaGreat
open Go.RowKit
/-- A text read off bytes: what is left, the text. -/
def rtS (s : List UInt8 × Int) : List UInt8 × Int := (s.1.drop (cutOf s.1 s.2 (2 + tlOf s.1)), errOf s.1 s.2 (2 + tlOf s.1))
def rtA (s : List UInt8 × Int) : Bt := ansText s.1 s.2
def kyV (s : List UInt8 × Int) : Bt := rtA (rtS s)
def kyN (s : List UInt8 × Int) : List UInt8 × Int := rtS (rtS s)
def lastK (L : Kvs) : Bt := (L.getLast?.map (·.1)).getD []
/-- May this pair stand behind these? -/
def okP (L : Kvs) (s : List UInt8 × Int) : Bool := !longB (rtA s) (kyV s) && (L.isEmpty || Op.bytesLess (lastK L) (rtA s))
def rRun : Nat → Kvs → List UInt8 × Int → Option (Kvs × (List UInt8 × Int))
  | 0, L, s => some (L, s)
  | n + 1, L, s => if okP L s = true then rRun n (L ++ [(rtA s, kyV s)]) (kyN s) else none
def finR : Option (Kvs × (List UInt8 × Int)) → Option Kvs
  | none => none
  | some (L, s) => if doneOf s.1 s.2 = 0 then some L else none
def rdF (bs : List UInt8) : Option Kvs := if ansInt bs 0 < 0 ∨ 512 < ansInt bs 0 then none else finR (rRun (ansInt bs 0).toNat [] (bs.drop (cutOf bs 0 8), errOf bs 0 8))
theorem lastK_snoc (L : Kvs) (x : Bt × Bt) : lastK (L ++ [x]) = x.1 := by simp [lastK]
theorem srt_snoc {L : Kvs} {k v : Bt} (s : SrtL L) (h : L = [] ∨ klt (lastK L) k) : (∀ x ∈ L, klt x.1 k) ∧ SrtL (L ++ [(k, v)]) := by
  have key : ∀ x ∈ L, klt x.1 k := fun x hx => by
    rcases h with h | h
    · rw [h] at hx; cases hx
    · rcases List.eq_nil_or_concat L with e | ⟨A, z, e⟩
      · rw [e] at hx; cases hx
      · rw [List.concat_eq_append] at e
        subst e
        rw [lastK_snoc] at h
        rcases List.mem_append.1 hx with hx | hx
        · exact klt_trans _ _ _ ((List.pairwise_append.1 s).2.2 x hx z (by simp)) h
        · rw [List.mem_singleton.1 hx]; exact h
  refine ⟨key, List.pairwise_append.2 ⟨s, List.pairwise_singleton _ _, fun x hx y hy => ?_⟩⟩
  rw [List.mem_singleton.1 hy]
  exact key x hx
theorem putL_snoc {L : Kvs} {k v : Bt} (h : ∀ x ∈ L, klt x.1 k) : putL L k v = L ++ [(k, v)] := by
  have := putL_new (A := L) (B := []) (k := k) (u := v) h (fun x hx => by cases hx)
  rw [List.append_nil] at this
  exact this
/-- An error stays. -/
theorem rtS_err {s : List UInt8 × Int} (h : s.2 ≠ 0) : (rtS s).2 ≠ 0 := by
  rw [rtS, (of_bad _ h).1]
  exact h
theorem rRun_bad : ∀ (n : Nat) (L : Kvs) (s : List UInt8 × Int), s.2 ≠ 0 → finR (rRun n L s) = none
  | 0, L, s, h => by
    rw [rRun, finR, if_neg]
    unfold doneOf
    rw [if_pos h]
    exact h
  | n + 1, L, s, h => by
    rw [rRun]
    split
    · exact rRun_bad n _ _ (rtS_err (rtS_err h))
    · rfl
end Go.Proofs.YtcjakgogdbfagaaGreat
namespace Go.Proofs.YtcjakgogdbfagaaGreat
open Go.RowKit
/-- While a store is read out of any bytes. -/
structure RdA (B K p h g tb : Nat) (L : Kvs) (s : List UInt8 × Int) (w W : World) : Prop where
  rd : RdS W p h g s.1 s.2
  t : ∃ gt, TreeAt tb gt L W ∧ K ≤ gt
  bel : Below B w W
  lo : B ≤ h ∧ p < K ∧ h < K ∧ g < K ∧ K ≤ tb ∧ B ≤ K
  srt : SrtL L
  sm : ∀ x ∈ L, x.1.length ≤ 32 ∧ x.2.length ≤ 256
theorem rtA_le (s : List UInt8 × Int) (h : s.1.length ≤ 140737488355328) : (rtA s).length ≤ 140737488355328 := by
  unfold rtA ansText
  split
  · simp
  · split
    · simp
    · rw [List.length_take, List.length_drop]; omega
theorem rtS_le (s : List UInt8 × Int) : (rtS s).1.length ≤ s.1.length := by
  unfold rtS
  rw [List.length_drop]
  omega
section
variable {B K p h g tb : Nat} {L : Kvs} {s : List UInt8 × Int} {w : World}
/-- What one round does. -/
theorem RdA.round {W : World} (I : RdA B K p h g tb L s w W) (hL : L.length ≤ 512) (hs : s.1.length ≤ 140737488355328) :
    Calls Tryz.prog 16 #[.pointer (some ⟨p, 0, none⟩)] W fun e w1 => e = .returned (sv (rtA s)) ∧ Hid (Calls Tryz.prog 16 #[.pointer (some ⟨p, 0, none⟩)] w1 fun e w2 => e = .returned (sv (kyV s)) ∧
      Hid (Calls Tryz.prog 17 #[sv (rtA s), sv (kyV s)] w2 fun e w3 => e = .returned (.bool (longB (rtA s) (kyV s))) ∧ w3 = w2) ∧ Hid (Below B w w2) ∧
      Hid (okP L s = true → Calls Tryz.prog 18 #[.pointer (some ⟨tb, 0, none⟩), sv (rtA s), sv (kyV s)] w2 fun e w3 => e = .returned (.tuple #[]) ∧ Hid (RdA B K p h g tb (L ++ [(rtA s, kyV s)]) (kyN s) w w3))) := by
  have l1 := rtA_le s hs
  have l2 := rtA_le (rtS s) (Nat.le_trans (rtS_le s) hs)
  refine (rtext_all p h g _ _ W I.rd).mono ?_
  rintro e w1 ⟨rfl, r1, c1⟩
  refine ⟨rfl, hidb ((rtext_all p h g _ _ w1 r1).mono ?_)⟩
  rintro e w2 ⟨rfl, r2, c2⟩
  obtain ⟨gt, t, hgt⟩ := I.t
  obtain ⟨o1, o2, o3, o4, o5, o6⟩ := I.lo
  have lt := t.lts
  have hs1 := c1.size
  have c12 := c1.trans c2 fun i _ e => e
  have hsz := I.bel.size
  have hbl : Below B w w2 := I.bel.trans (c12.below (by omega) fun i e => by omega)
  refine ⟨rfl, hidb ?_, hidb hbl, hidb fun hok => ?_⟩
  · refine (isLong_any _ _ w2 (by omega) (by unfold kyV; omega)).mono ?_
    rintro e w3 ⟨rfl, rfl⟩
    exact ⟨rfl, rfl⟩
  · have t2 : TreeAt tb gt L w2 := t.keep (c12.block _ lt.1 (by omega)) (c12.block _ lt.2.1 (by omega))
    refine (put_any tb gt L w2 _ _ t2 (by omega) (by unfold kyV; omega) (by omega)).mono ?_
    rintro e w3 ⟨rfl, H3⟩
    obtain ⟨g', t3, hg', k3⟩ := H3.out
    have hs2 := c12.size
    simp only [okP, Bool.and_eq_true, Bool.or_eq_true, Bool.not_eq_true'] at hok
    have hord : L = [] ∨ klt (lastK L) (rtA s) := by
      rcases hok.2 with e | e
      · exact .inl (List.isEmpty_iff.1 e)
      · exact .inr e
    obtain ⟨f1, f2⟩ := srt_snoc (v := kyV s) I.srt hord
    rw [putL_snoc f1] at t3
    have hlg := hok.1
    simp only [longB, Bool.or_eq_false_iff, decide_eq_false_iff_not] at hlg
    refine ⟨rfl, hidb ⟨r2.chg (chg_of_kt k3) (by omega) (by omega) (by omega), ⟨g', t3, by omega⟩, ?_, I.lo, f2, fun x hx => ?_⟩⟩
    · refine hbl.trans ?_
      have hz := hbl.size
      exact (chg_of_kt k3).below (by omega) fun i e => by omega
    · rcases List.mem_append.1 hx with hx | hx
      · exact I.sm x hx
      · rw [List.mem_singleton.1 hx]
        simp only
        omega
end
/-- What Read answers. -/
def RdEnd (R : Option Kvs) (w : World) (e : Ending) (w' : World) : Prop := Below w.heap.size w w' ∧ match R with
  | none => e = .returned (.tuple #[.pointer none, .int .i64 21])
  | some L => ∃ s2 t2 g2, e = .returned (.tuple #[.pointer (some ⟨s2, 0, none⟩), .int .i64 0]) ∧ StAt s2 t2 g2 L w' ∧ w.heap.size ≤ s2 ∧ w.heap.size ≤ t2 ∧ w.heap.size ≤ g2 ∧ SrtL L ∧ L.length ≤ 512 ∧ ∀ x ∈ L, x.1.length ≤ 32 ∧ x.2.length ≤ 256
end Go.Proofs.YtcjakgogdbfagaaGreat
namespace Go.Proofs.YtcjakgogdbfagaaGreat
open Go.RowKit
theorem klt_tri (a b : Bt) : klt a b ∨ Op.bytesLess b a = true ∨ (Op.bytesLess b a = false ∧ (b == a) = true) := by
  by_cases h : klt a b
  · exact .inl h
  · by_cases h2 : klt b a
    · exact .inr (.inl h2)
    · refine .inr (.inr ⟨by simpa [klt] using h2, ?_⟩)
      by_cases e : a = b
      · simp [e]
      · rcases klt_tot a b e with h3 | h3
        · exact absurd h3 h
        · exact absurd h3 h2
set_option maxRecDepth 100000 in
set_option maxHeartbeats 2000000 in
theorem sread_any (ao : Option Addr) (m cap : Nat) (bs : List UInt8) (w : World) (hm : bs.length = m) (hln : m ≤ 140737488355328) (hb : Bs w ao bs) :
    Calls Tryz.prog 5 #[.slice ao m cap] w (RdEnd (rdF bs) w) := by
  have HN : Hid (Calls Tryz.prog 13 #[.slice ao m cap] w fun e w1 => ∃ h, e = .returned (.pointer (some ⟨h + 1, 0, none⟩)) ∧ Hid (Calls Tryz.prog 14 #[] w1 fun e w2 => ∃ tb, e = .returned (.pointer (some ⟨tb, 0, none⟩)) ∧
      Hid (Calls Tryz.prog 15 #[.pointer (some ⟨h + 1, 0, none⟩)] w2 fun e w3 => e = .returned (.int .i64 (ansInt bs 0)) ∧ Hid (RdA w.heap.size w1.heap.size (h + 1) h w.heap.size tb [] (bs.drop (cutOf bs 0 8), errOf bs 0 8) w w3)))) := hidb (by
    refine (rnew_any ao m cap bs w hm hln hb).mono ?_
    rintro e w1 ⟨h, rfl, hlt, r1, b1⟩
    refine ⟨h, rfl, hidb ((newTree_any w1).mono ?_)⟩
    rintro e w2 ⟨tb, rfl, H⟩
    obtain ⟨gt, t, l1, l2, b2⟩ := H.out
    obtain ⟨⟨_, _, hE, _⟩, _⟩ := id r1
    have z1 := lt_of_block hE.hp
    have z2 := b2.size
    have r2 : RdS w2 (h + 1) h w.heap.size bs 0 := r1.chg (Chg.of_below (S := fun _ => False) b2) id id id
    refine ⟨tb, rfl, hidb ((rint_all (h + 1) h _ _ _ w2 r2).mono ?_)⟩
    rintro e w3 ⟨rfl, r3, c3⟩
    have lt := t.lts
    have z3 := b1.size
    exact ⟨rfl, hidb ⟨r3, ⟨gt, t.keep (c3.block _ lt.1 (by omega)) (c3.block _ lt.2.1 (by omega)), l2⟩, (b1.trans (b2.mono (by omega))).trans (c3.below (by omega) fun i e => by omega), by omega, List.Pairwise.nil, fun x hx => by cases hx⟩⟩)
  obtain ⟨nn, hnn⟩ : ∃ nn, nn = ansInt bs 0 := ⟨_, rfl⟩
  obtain ⟨s0, hs0⟩ : ∃ s0, s0 = (bs.drop (cutOf bs 0 8), errOf bs 0 8) := ⟨_, rfl⟩
  have hR : rdF bs = if nn < 0 ∨ 512 < nn then none else finR (rRun nn.toNat [] s0) := by rw [rdF, ← hnn, ← hs0]
  have hsl : s0.1.length ≤ 140737488355328 := by rw [hs0]; simp only [List.length_drop]; omega
  rw [← hnn, ← hs0] at HN
  obtain ⟨R, hRe⟩ : ∃ R, R = rdF bs := ⟨_, rfl⟩
  rw [← hRe]
  rw [← hRe] at hR
  clear hnn hs0 hRe hb hm hln
  have HNo : Hid (∀ W, Below w.heap.size w W → R = none → RdEnd R w (.returned (.tuple #[.pointer none, .int .i64 21])) W) := hidb fun W h1 h2 => ⟨h1, by rw [h2]⟩
  by_cases hbad : nn < 0 ∨ 512 < nn
  · rw [if_pos hbad] at hR
    have HR := hidb hR
    clear hR
    have hd : (decide (nn < 0) = true) ∨ (decide (nn < 0) = false ∧ decide (512 < nn) = true) := by
      rcases hbad with h | h
      · exact .inl (by simpa using h)
      · by_cases h0 : nn < 0
        · exact .inl (by simpa using h0)
        · exact .inr ⟨by simpa using h0, by simpa using h⟩
    clear hbad
    rcases hd with hd | ⟨hd, hd2⟩
    all_goals
      go_enter Tryz.func5, Tryz.ntmps5
      go_wp2_with (first
        | (go_at_call 13; refine HN.out.mono ?_; clear HN; rintro e w1 ⟨h, rfl, HT⟩)
        | (go_at_call 14; refine HT.out.mono ?_; clear HT; rintro e w2 ⟨tb, rfl, HI⟩)
        | (go_at_call 15; refine HI.out.mono ?_; clear HI; rintro e w3 ⟨rfl, K3⟩)
        | fail)
      go_ret2
      exact HNo.out _ K3.out.bel HR.out
  · rw [if_neg hbad] at hR
    obtain ⟨n, rfl⟩ : ∃ n : Nat, nn = n := ⟨nn.toNat, by omega⟩
    rw [Int.toNat_natCast] at hR
    have hn : n ≤ 512 := by omega
    have d1 : decide ((n : Int) < 0) = false := by simp
    have d2 : decide ((512 : Int) < (n : Int)) = false := by simp; omega
    have HR0 := hidb (And.intro hR hsl)
    clear hbad hR hsl
    go_enter Tryz.func5, Tryz.ntmps5
    go_wp2_with (first
      | (go_at_call 13; refine HN.out.mono ?_; clear HN; rintro e w1 ⟨h, rfl, HT⟩)
      | (go_at_call 14; refine HT.out.mono ?_; clear HT; rintro e w2 ⟨tb, rfl, HI⟩)
      | (go_at_call 15; refine HI.out.mono ?_; clear HI; rintro e w3 ⟨rfl, K3⟩)
      | fail)
    clear d1 d2
    go_loopw [7, 23] (fun av iv wr => ∃ (j : Nat) (L : Kvs) (s : List UInt8 × Int), iv = .int .i64 j ∧ j ≤ n ∧ av = sv (lastK L) ∧ Hid (L.length = j ∧ RdA w.heap.size w1.heap.size (h + 1) h w.heap.size tb L s w wr ∧ R = finR (rRun (n - j) L s) ∧ s.1.length ≤ 140737488355328)) (fun _ iv _ => n - (intOf iv).toNat)
    case atStart => exact ⟨0, [], s0, rfl, Nat.zero_le _, rfl, hidb ⟨rfl, K3.out, HR0.out.1, HR0.out.2⟩⟩
    case round =>
      obtain ⟨j, L, s, rfl, hj, rfl, HK⟩ := hrel
      clear K3 HR0
      by_cases hlt : j < n
      · have HRd := hidb (HK.out.2.1.round (by rw [HK.out.1]; omega) HK.out.2.2.2)
        have HRun : Hid (R = if okP L s = true then finR (rRun (n - (j + 1)) (L ++ [(rtA s, kyV s)]) (kyN s)) else none) := hidb (by
          rw [HK.out.2.2.1, show n - j = n - (j + 1) + 1 by omega, rRun]
          split <;> rfl)
        have HLn := hidb (And.intro HK.out.1 (Nat.le_trans (rtS_le _) (Nat.le_trans (rtS_le s) HK.out.2.2.2)))
        have hemp : L.isEmpty = decide (j = 0) := by
          have := HK.out.1
          cases L with
          | nil => simp at this; simp [← this]
          | cons x l => simp at this; simp; omega
        have HOk : Hid (okP L s = (!longB (rtA s) (kyV s) && (decide (j = 0) || Op.bytesLess (lastK L) (rtA s)))) := hidb (by rw [okP, hemp])
        have HLk : Hid (lastK (L ++ [(rtA s, kyV s)]) = rtA s) := hidb (lastK_snoc _ _)
        have HGo : Hid (∀ wq, okP L s = true → RdA w.heap.size w1.heap.size (h + 1) h w.heap.size tb (L ++ [(rtA s, kyV s)]) (kyN s) w wq → ∃ (j' : Nat) (L' : Kvs) (s' : List UInt8 × Int), Value.int .i64 ((j : Int) + 1) = .int .i64 j' ∧ j' ≤ n ∧ sv (rtA s) = sv (lastK L') ∧ Hid (L'.length = j' ∧ RdA w.heap.size w1.heap.size (h + 1) h w.heap.size tb L' s' w wq ∧ R = finR (rRun (n - j') L' s') ∧ s'.1.length ≤ 140737488355328)) := hidb fun wq hok hA => ⟨j + 1, _, kyN s, by go_num, by omega, by rw [HLk.out], hidb ⟨by rw [List.length_append, HLn.out.1]; rfl, hA, by rw [HRun.out, if_pos hok], HLn.out.2⟩⟩
        clear HK hemp
        generalize hkk : rtA s = key at HRd HOk HGo HLk
        generalize hvv : kyV s = val at HRd HOk HGo HLk
        generalize hav : lastK L = av at HOk ⊢
        have HRn : Hid (okP L s = false → R = none) := hidb fun h => by rw [HRun.out, if_neg (by rw [h]; decide)]
        clear HRun hkk hvv hav HLn
        generalize okP L s = ok at *
        cases hlg : longB key val with
        | true =>
          rw [hlg] at HRd HOk
          have HE := hidb (HRn.out (by rw [HOk.out]; rfl))
          clear HRn HOk HGo HLk
          go_wp2_with (first
            | (go_at_call 16; first | (refine HRd.out.mono ?_; clear HRd; rintro e w4 ⟨rfl, HR2⟩) | (refine HR2.out.mono ?_; clear HR2; rintro e w5 ⟨rfl, HL5, HB5, HP5⟩))
            | (go_at_call 17; refine HL5.out.mono ?_; clear HL5; rintro e w6 ⟨rfl, rfl⟩)
            | fail)
          go_ret2
          exact HNo.out _ HB5.out HE.out
        | false =>
          rw [hlg] at HRd HOk
          have hcs : (¬ 0 < j ∧ ok = true) ∨ (0 < j ∧ Op.bytesLess key av = false ∧ (key == av) = false ∧ ok = true) ∨ (0 < j ∧ Op.bytesLess key av = true ∧ ok = false) ∨ (0 < j ∧ Op.bytesLess key av = false ∧ (key == av) = true ∧ ok = false) := by
            have ho := HOk.out
            by_cases h0 : j = 0
            · exact .inl ⟨by omega, by rw [ho]; simp [h0]⟩
            · have hd : decide (j = 0) = false := by simpa using h0
              rcases klt_tri av key with h1 | h1 | ⟨h1, h2⟩
              · refine .inr (.inl ⟨by omega, by simpa using klt_asymm h1, by simpa using (klt_ne h1).symm, by rw [ho, hd]; simpa using h1⟩)
              · refine .inr (.inr (.inl ⟨by omega, h1, ?_⟩))
                rw [ho, hd]
                have := klt_asymm (a := key) (b := av) h1
                simpa using this
              · refine .inr (.inr (.inr ⟨by omega, h1, h2, ?_⟩))
                rw [ho, hd]
                have e : key = av := by simpa using h2
                subst e
                simpa using h1
          clear HOk HLk hlg
          rcases hcs with ⟨hd, hok⟩ | ⟨hd, hb1, hb2, hok⟩ | ⟨hd, hb1, hok⟩ | ⟨hd, hb1, hb2, hok⟩
          · have HGo2 := hidb (fun wq => HGo.out wq hok)
            have Hok := hidb hok
            clear HGo HRn hok
            go_wp2_with (first
              | (go_at_call 16; first | (refine HRd.out.mono ?_; clear HRd; rintro e w4 ⟨rfl, HR2⟩) | (refine HR2.out.mono ?_; clear HR2; rintro e w5 ⟨rfl, HL5, HB5, HP5⟩))
              | (go_at_call 17; refine HL5.out.mono ?_; clear HL5; rintro e w6 ⟨rfl, rfl⟩)
              | (go_at_call 18; refine (HP5.out Hok.out).mono ?_; clear HP5; rintro e w7 ⟨rfl, K7⟩)
              | fail)
            exact ⟨HGo2.out _ K7.out, by simp [intOf]; omega⟩
          · have HGo2 := hidb (fun wq => HGo.out wq hok)
            have Hok := hidb hok
            clear HGo HRn hok
            go_wp2_with (first
              | (go_at_call 16; first | (refine HRd.out.mono ?_; clear HRd; rintro e w4 ⟨rfl, HR2⟩) | (refine HR2.out.mono ?_; clear HR2; rintro e w5 ⟨rfl, HL5, HB5, HP5⟩))
              | (go_at_call 17; refine HL5.out.mono ?_; clear HL5; rintro e w6 ⟨rfl, rfl⟩)
              | (go_at_call 18; refine (HP5.out Hok.out).mono ?_; clear HP5; rintro e w7 ⟨rfl, K7⟩)
              | fail)
            exact ⟨HGo2.out _ K7.out, by simp [intOf]; omega⟩
          all_goals
            have HE := hidb (HRn.out hok)
            clear HGo HRn hok
            go_wp2_with (first
              | (go_at_call 16; first | (refine HRd.out.mono ?_; clear HRd; rintro e w4 ⟨rfl, HR2⟩) | (refine HR2.out.mono ?_; clear HR2; rintro e w5 ⟨rfl, HL5, HB5, HP5⟩))
              | (go_at_call 17; refine HL5.out.mono ?_; clear HL5; rintro e w6 ⟨rfl, rfl⟩)
              | fail)
            go_ret2
            exact HNo.out _ HB5.out HE.out
      · have hjn : j = n := by omega
        subst hjn
        have HFin : Hid (R = if doneOf s.1 s.2 = 0 then some L else none) := hidb (by rw [HK.out.2.2.1, Nat.sub_self, rRun, finR])
        have HD := hidb (rdone_any (h + 1) h w.heap.size _ _ wr HK.out.2.1.rd)
        have HKe := hidb HK.out.2.1
        have HLl := hidb HK.out.1
        clear HK
        generalize doneOf s.1 s.2 = dn at *
        by_cases hdn : dn = 0
        · subst hdn
          have HE := hidb (HFin.out.trans (if_pos rfl))
          clear HFin HNo
          go_wp2_with (first
            | (go_at_call 19; refine HD.out.mono ?_; clear HD; rintro e w4 ⟨rfl, rfl⟩)
            | fail)
          go_ret2
          obtain ⟨g2, t, hgt⟩ := HKe.out.t
          obtain ⟨o1, o2, o3, o4, o5, o6⟩ := HKe.out.lo
          have hb := (Below.refl w4.heap.size w4).alloc (Nat.le_refl _) (.cells #[.pointer (some ⟨tb, 0, none⟩)] 49)
          have h3 := HKe.out.bel
          have := h3.size
          have hl := HLl.out
          rw [HE.out]
          exact ⟨h3.alloc (by omega) _, _, tb, g2, rfl, ⟨heap_alloc_new w4 _, t.below hb, by have := t.lts; omega, by have := t.lts; omega⟩, by omega, by omega, by omega, HKe.out.srt, by omega, HKe.out.sm⟩
        · have hne : (dn != 0) = true := by simpa using hdn
          have HE := hidb (HFin.out.trans (if_neg hdn))
          clear HFin hdn
          go_wp2_with (first
            | (go_at_call 19; refine HD.out.mono ?_; clear HD; rintro e w4 ⟨rfl, rfl⟩)
            | fail)
          go_ret2
          exact HNo.out _ HKe.out.bel HE.out
end Go.Proofs.YtcjakgogdbfagaaGreat
namespace Go.Proofs.YtcjakgogdbfagaaGreat
open Go.RowKit
theorem next_at {L : Kvs} {k : Bt} {i : Nat} (h1 : ∀ x ∈ L.take i, ¬ klt k x.1) (h2 : ∀ h : i < L.length, klt k L[i].1) : nextL L k = L[i]?.map (·.1) := by
  have e : nextL L k = nextL (L.drop i) k := by
    conv => lhs; rw [← List.take_append_drop i L]
    exact nextL_skip h1
  rw [e]
  by_cases h : i < L.length
  · rw [List.drop_eq_getElem_cons h, List.getElem?_eq_getElem h]
    have := h2 h
    generalize L[i] = x at this
    obtain ⟨a, b⟩ := x
    rw [nextL, if_pos this]
    rfl
  · rw [List.drop_eq_nil_of_le (by omega), List.getElem?_eq_none (by omega)]
    rfl
theorem next_there {L : Kvs} (s : SrtL L) {k u : Bt} (hg : getL L k = some u) : nextL L k = L[posL L k + 1]?.map (·.1) := by
  rcases pos_there s (k := k) with ⟨v, e, hp, e2⟩ | ⟨e, _⟩
  · refine next_at (fun x hx => ?_) fun h => ?_
    · rw [List.take_succ_eq_append_getElem hp, List.mem_append, List.mem_singleton] at hx
      rcases hx with hx | rfl
      · exact klt_asymm (pos_before x hx)
      · rw [e2]; exact klt_irr k
    · have := (List.pairwise_iff_getElem.1 s) (posL L k) (posL L k + 1) hp h (by omega)
      rw [e2] at this
      exact this
  · rw [hg] at e; cases e
theorem next_none {L : Kvs} (s : SrtL L) {k : Bt} (hg : getL L k = none) : nextL L k = L[posL L k]?.map (·.1) := by
  rcases pos_there s (k := k) with ⟨v, e, _⟩ | ⟨_, h⟩
  · rw [hg] at e; cases e
  · exact next_at (fun x hx => klt_asymm (pos_before x hx)) h
end Go.Proofs.YtcjakgogdbfagaaGreat
namespace Go.Proofs.YtcjakgogdbfagaaGreat
open Go.RowKit
/-- The document's run ends at the first error. -/
def dRun : Nat → Kvs → List UInt8 × Int → Option (Kvs × (List UInt8 × Int))
  | 0, L, s => some (L, s)
  | n + 1, L, s => if s.2 = 0 then (if okP L s = true then dRun n (L ++ [(rtA s, kyV s)]) (kyN s) else none) else some (L, s)
theorem dRun_same : ∀ (n : Nat) (L : Kvs) (s : List UInt8 × Int), finR (dRun n L s) = finR (rRun n L s)
  | 0, _, _ => rfl
  | n + 1, L, s => by
    by_cases h : s.2 = 0
    · rw [dRun, rRun, if_pos h]
      split
      · exact dRun_same n _ _
      · rfl
    · rw [rRun_bad (n + 1) L s h, dRun, if_neg h, finR, if_neg]
      unfold doneOf
      rw [if_pos h]
      exact h
/-- While the document's store is read. -/
structure RdD (B q g rb : Nat) (v : Value) (L : Kvs) (bs : List UInt8) (s : List UInt8 × Int) (w W : World) : Prop where
  rd : ∃ k, s.1 = bs.drop k ∧ RfS W q g bs k s.2
  st : RfAt rb v L W
  bel : Below B w W
  lo : B ≤ q ∧ B ≤ g ∧ B ≤ rb ∧ q ≠ rb ∧ g ≠ rb ∧ q < W.heap.size ∧ g < W.heap.size
  own : ∀ i, v.ownBlock = some i → B ≤ i ∧ i ≠ q ∧ i ≠ g ∧ i < W.heap.size
  srt : SrtL L
  sm : ∀ x ∈ L, x.1.length ≤ 32 ∧ x.2.length ≤ 256
section
variable {B q g rb : Nat} {v : Value} {L : Kvs} {bs : List UInt8} {s : List UInt8 × Int} {w W W' : World}
theorem RdD.kt {S : Nat → Prop} (h : RdD B q g rb v L bs s w W) (k : Kt S W W') (h1 : ¬ S q) (h2 : ¬ S g) (h3 : ¬ S rb) (h4 : ∀ i, v.ownBlock = some i → ¬ S i) (hb : ∀ i, i < B → ¬ S i) : RdD B q g rb v L bs s w W' := by
  obtain ⟨n, e, hr⟩ := h.rd
  have hz := k.size
  have hz2 := h.bel.size
  refine ⟨⟨n, e, hr.chg (chg_of_kt k) h1 h2⟩, h.st.kt k h3 h4, ?_, ?_, fun i hi => ?_, h.srt, h.sm⟩
  · exact h.bel.trans ((chg_of_kt k).below (by have := h.lo; omega) fun i hi => Nat.le_of_not_lt fun h => hb i h hi)
  · have := h.lo
    omega
  · have := h.own i hi
    omega
theorem RdD.below (h : RdD B q g rb v L bs s w W) (k : Below W.heap.size W W') : RdD B q g rb v L bs s w W' := h.kt (Kt.below (S := fun _ => False) k) id id id (fun _ _ => id) (fun _ _ => id)
/-- A text is read. -/
theorem RdD.text (h : RdD B q g rb v L bs s w W) : Calls Tryz.prog 22 #[.pointer (some ⟨q, 0, none⟩)] W fun e W' => e = .returned (sv (rtA s)) ∧ Kt (fun i => i = q) W W' ∧ RdD B q g rb v L bs (rtS s) w W' := by
  obtain ⟨n, e, hr⟩ := h.rd
  refine (ftext_all q g bs n s.2 W hr).mono ?_
  rintro e' W' ⟨rfl, h1, h2⟩
  obtain ⟨l1, l2, l3, l4, l5, l6, l7⟩ := h.lo
  have k := kt_of_chg h2
  have hz := h2.size
  rw [← e] at h1
  refine ⟨by rw [rtA, e], k, ⟨⟨_, ?_, h1⟩, h.st.kt k (fun e => l4 e.symm) (fun i hi e => (h.own i hi).2.1 e), ?_, by omega, fun i hi => ?_, h.srt, h.sm⟩⟩
  · rw [rtS, e, List.drop_drop]
  · exact h.bel.trans (h2.below (by have := h.bel.size; omega) fun i hi => by omega)
  · have := h.own i hi
    omega
/-- A pair is put behind all others. -/
theorem RdD.put (h : RdD B q g rb v L bs s w W) (s' : List UInt8 × Int) (hL : L.length < 512) (hs : s'.1.length ≤ 140737488355328) (ho : L = [] ∨ klt (lastK L) (rtA s')) : Calls Tryz.prog 23 #[.pointer (some ⟨rb, 0, none⟩), sv (rtA s'), sv (kyV s')] W fun e W' => e = .returned (.int .i64 (if longB (rtA s') (kyV s') then 41 else 0)) ∧ Below B w W' ∧ Kt (fun i => i = rb ∨ v.ownBlock = some i) W W' ∧ (longB (rtA s') (kyV s') = false → ∃ v', RdD B q g rb v' (L ++ [(rtA s', kyV s')]) bs s w W') := by
  have l1 := rtA_le s' hs
  have l2 := rtA_le (rtS s') (Nat.le_trans (rtS_le s') hs)
  obtain ⟨f1, f2⟩ := srt_snoc (v := kyV s') h.srt ho
  have hg : getL L (rtA s') = none := getL_none fun x hx e => klt_ne (f1 x hx) e
  refine (rput_any rb v L W (rtA s') (kyV s') h.st h.srt (by omega) (by unfold kyV; omega) (by omega)).mono ?_
  rintro e W' ⟨rfl, H⟩
  obtain ⟨v', a1, a2, k⟩ := H.out
  obtain ⟨o1, o2, o3, o4, o5, o6, o7⟩ := h.lo
  have hz := k.size
  have hbl : Below B w W' := h.bel.trans ((chg_of_kt k).below (by have := h.bel.size; omega) fun i hi => by
    rcases hi with hi | hi
    · omega
    · exact (h.own i hi).1)
  refine ⟨?_, hbl, k, fun hlg => ?_⟩
  · unfold putE
    rw [hg]
    cases longB (rtA s') (kyV s')
    · simp; omega
    · simp
  · unfold putS at a1
    rw [hlg, hg] at a1
    simp only [Bool.false_eq_true, if_false, true_and] at a1
    rw [if_neg (by omega), putL_snoc f1] at a1
    obtain ⟨n, en, hr⟩ := h.rd
    simp only [longB, Bool.or_eq_false_iff, decide_eq_false_iff_not] at hlg
    refine ⟨v', ⟨⟨n, en, hr.chg (chg_of_kt k) (by rintro (e | e); exact o4 e; exact (h.own _ e).2.1 rfl) (by rintro (e | e); exact o5 e; exact (h.own _ e).2.2.1 rfl)⟩, a1, hbl, by omega, fun i hi => ?_, f2, fun x hx => ?_⟩⟩
    · have hlt := (a1.row.lt i hi).2
      rcases a2 with a2 | a2
      · rw [a2] at hi
        have := h.own i hi
        omega
      · have := a2 i hi
        have := h.bel.size
        omega
    · rcases List.mem_append.1 hx with hx | hx
      · exact h.sm x hx
      · rw [List.mem_singleton.1 hx]
        simp only
        omega
end
end Go.Proofs.YtcjakgogdbfagaaGreat
