/- Layer 11: the document's Read of any bytes. -/
import Derived.Test.YtcjakgogdbfagaaGreatKYb
import Derived.Test.YtcjakgogdbfagaaGreatRIg
import Derived.Test.YtcjakgogdbfagaaGreatKT
namespace Go.Proofs.YtcjakgogdbfagaaGreat
open Go.RowKit
theorem below_dr {B : Nat} {a w : World} (h : Below B a w) (m : Nat) : Below B a (w.drewN m) := ⟨h.os, h.tape, h.output, h.size, h.block⟩
/-- What the document's Read answers. -/
def RdEndD (R : Option Kvs) (w : World) (e : Ending) (w' : World) : Prop := Below w.heap.size w w' ∧ match R with
  | none => e = .returned (.tuple #[.pointer none, .int .i64 21])
  | some L => ∃ rb v, e = .returned (.tuple #[.pointer (some ⟨rb, 0, none⟩), .int .i64 0]) ∧ RfAt rb v L w' ∧ w.heap.size ≤ rb
set_option maxRecDepth 100000 in
set_option maxHeartbeats 2000000 in
theorem rread_any (ao : Option Addr) (m cap : Nat) (bs : List UInt8) (w : World) (hm : bs.length = m) (hln : m ≤ 140737488351232) (hb : Bs w ao bs) :
    Calls Tryz.prog 6 #[.slice ao m cap] w (RdEndD (rdF bs) w) := by
  have HN : Hid (Calls Tryz.prog 20 #[.slice ao m cap] w fun e w1 => ∃ q, e = .returned (.pointer (some ⟨q, 0, none⟩)) ∧
      Hid (Calls Tryz.prog 21 #[.pointer (some ⟨q, 0, none⟩)] w1 fun e w2 => e = .returned (.int .i64 (ansInt bs 0)) ∧ Hid (∃ g, RdD w.heap.size q g w2.heap.size (.slice none 0 0) [] bs (bs.drop (cutOf bs 0 8), errOf bs 0 8) w (w2.alloc (.cells #[.slice none 0 0] 37))))) := hidb (by
    refine (fnew_new ao m cap bs w hm hln hb).mono ?_
    rintro e w1 ⟨q, g0, rfl, l1, l20, r10, b1⟩
    obtain ⟨g, l2, hg1, r1⟩ : ∃ g, w.heap.size ≤ g ∧ g < w1.heap.size ∧ RfS w1 q g bs 0 0 := by
      rcases Nat.lt_or_ge g0 w1.heap.size with h | h
      · exact ⟨g0, l20, h, r10⟩
      · obtain ⟨⟨ao', cap', hE, hB, hc, hm⟩, hg, hk, hx⟩ := r10
        refine ⟨w.heap.size, Nat.le_refl _, Nat.lt_trans l1 (heap_ltb hE), ⟨ao', cap', hE, ?_, hc, hm⟩, by omega, hk, hx⟩
        rcases hB with h0 | ⟨off, rfl, hcell⟩
        · exact .inl h0
        · by_cases hz : bs = []
          · exact .inl hz
          · exfalso
            have := World.block_lt_of_cell? _ _ (hcell 0 (List.length_pos_iff.2 hz))
            simp only at this
            omega
    refine ⟨q, rfl, hidb ((fint_all q g bs 0 0 w1 r1).mono ?_)⟩
    rintro e w2 ⟨rfl, r2, c2⟩
    rw [List.drop_zero] at r2
    refine ⟨by rw [List.drop_zero], hidb ⟨g, ?_⟩⟩
    have bA : Below w2.heap.size w2 (w2.alloc (.cells #[.slice none 0 0] 37)) := (Below.refl _ _).alloc (Nat.le_refl _) _
    have r3 : RfS (w2.alloc (.cells #[.slice none 0 0] 37)) q g bs (0 + cutOf bs 0 8) (errOf bs 0 8) := r2.chg (Chg.of_below (S := fun _ => False) bA) id id
    have hsz : (w2.alloc (.cells #[.slice none 0 0] 37)).heap.size = w2.heap.size + 1 := by simp
    obtain ⟨⟨a2, c3, hE, hBs, _⟩, _⟩ := id r2
    have z1 := heap_ltb hE
    have hz := b1.size
    have hz2 := c2.size
    have hg : g < w2.heap.size := Nat.lt_of_lt_of_le hg1 hz2
    refine ⟨⟨_, by rw [Nat.zero_add], r3⟩, ⟨heap_alloc_new w2 _, ⟨rfl, .inl ⟨rfl, rfl⟩⟩⟩, (b1.trans (c2.below (by omega) fun i hi => by omega)).trans (bA.mono (by omega)), by omega, fun i hi => by simp [Value.ownBlock] at hi, List.Pairwise.nil, fun x hx => by cases hx⟩)
  obtain ⟨nn, hnn⟩ : ∃ nn, nn = ansInt bs 0 := ⟨_, rfl⟩
  obtain ⟨s0, hs0⟩ : ∃ s0, s0 = (bs.drop (cutOf bs 0 8), errOf bs 0 8) := ⟨_, rfl⟩
  have hR : rdF bs = if nn < 0 ∨ 512 < nn then none else finR (dRun nn.toNat [] s0) := by rw [rdF, ← hnn, ← hs0, dRun_same]
  have hsl : s0.1.length ≤ 140737488355328 := by rw [hs0]; simp only [List.length_drop]; omega
  rw [← hnn, ← hs0] at HN
  obtain ⟨R, hRe⟩ : ∃ R, R = rdF bs := ⟨_, rfl⟩
  rw [← hRe]
  rw [← hRe] at hR
  clear hnn hs0 hRe hb hm hln
  have HNo : Hid (∀ W, Below w.heap.size w W → R = none → RdEndD R w (.returned (.tuple #[.pointer none, .int .i64 21])) W) := hidb fun W h1 h2 => ⟨h1, by rw [h2]⟩
  by_cases hbad : nn < 0 ∨ 512 < nn
  · rw [if_pos hbad] at hR
    have HR := hidb hR
    clear hR
    have hd : (decide (nn < 0) = true) ∨ (decide (nn < 0) = false ∧ decide (512 < nn) = true) := by
      rcases hbad with h | h
      · exact .inl (by simpa using h)
      · by_cases h0 : nn < 0
        · exact .inl (by simpa using h0)
        · exact .inr ⟨by simpa using h0, by simpa using h⟩
    clear hbad
    rcases hd with hd | ⟨hd, hd2⟩
    all_goals
      go_enter Tryz.func6, Tryz.ntmps6
      go_wp2_with (first
        | (go_at_call 20; refine HN.out.mono ?_; clear HN; rintro e w1 ⟨q, rfl, HI⟩)
        | (go_at_call 21; refine HI.out.mono ?_; clear HI; rintro e w2 ⟨rfl, K2⟩)
        | fail)
      go_ret2
      obtain ⟨g, K⟩ := K2.out
      exact HNo.out _ K.bel HR.out
  · rw [if_neg hbad] at hR
    obtain ⟨n, rfl⟩ : ∃ n : Nat, nn = n := ⟨nn.toNat, by omega⟩
    rw [Int.toNat_natCast] at hR
    have hn : n ≤ 512 := by omega
    have d1 : decide ((n : Int) < 0) = false := by simp
    have d2 : decide ((512 : Int) < (n : Int)) = false := by simp; omega
    have HR0 := hidb (And.intro hR hsl)
    clear hbad hR hsl
    go_enter Tryz.func6, Tryz.ntmps6
    go_wp2_with (first
      | (go_at_call 20; refine HN.out.mono ?_; clear HN; rintro e w1 ⟨q, rfl, HI⟩)
      | (go_at_call 21; refine HI.out.mono ?_; clear HI; rintro e w2 ⟨rfl, K2⟩)
      | fail)
    clear d1 d2
    go_loopw [7] (fun iv wr => ∃ (j : Nat) (L : Kvs) (s : List UInt8 × Int) (v : Value) (g : Nat), iv = .int .i64 j ∧ j ≤ n ∧ Hid (L.length = j ∧ RdD w.heap.size q g w2.heap.size v L bs s w wr ∧ R = finR (dRun (n - j) L s) ∧ s.1.length ≤ 140737488355328)) (fun iv _ => n - (intOf iv).toNat)
    case atStart =>
      obtain ⟨g, K⟩ := K2.out
      exact ⟨0, [], s0, _, g, rfl, Nat.zero_le _, hidb ⟨rfl, K, HR0.out.1, HR0.out.2⟩⟩
    case round =>
      obtain ⟨j, L, s, v, g, rfl, hj, HK⟩ := hrel
      clear K2 HR0
      obtain ⟨kk, ek, hrf⟩ := HK.out.2.1.rd
      obtain ⟨_, _, yE⟩ := hrf.at1
      clear ek hrf
      by_cases hgo : j < n ∧ s.2 = 0
      · obtain ⟨hlt, hE⟩ := hgo
        rw [hE] at yE
        obtain ⟨va, vc, hv, _⟩ := HK.out.2.1.st.form
        have HRun : Hid (R = if okP L s = true then finR (dRun (n - (j + 1)) (L ++ [(rtA s, kyV s)]) (kyN s)) else none) := hidb (by
          rw [HK.out.2.2.1, show n - j = n - (j + 1) + 1 by omega, dRun, if_pos hE]
          split <;> rfl)
        have hLj := HK.out.1
        have hemp : L.isEmpty = decide (j = 0) := by
          cases L with
          | nil => simp at hLj; simp [← hLj]
          | cons x l => simp at hLj; simp; omega
        have HOk : Hid (okP L s = (!longB (rtA s) (kyV s) && (decide (j = 0) || Op.bytesLess (lastK L) (rtA s)))) := hidb (by rw [okP, hemp])
        have hle2 : (kyN s).1.length ≤ 140737488355328 := Nat.le_trans (rtS_le _) (Nat.le_trans (rtS_le s) HK.out.2.2.2)
        have HT1 : Hid (Calls Tryz.prog 22 #[.pointer (some ⟨q, 0, none⟩)] wr fun e w4 => e = .returned (sv (rtA s)) ∧ Hid (Calls Tryz.prog 22 #[.pointer (some ⟨q, 0, none⟩)] (w4.alloc (.cells #[sv (rtA s), sv []] 55)) fun e w5 => e = .returned (sv (kyV s)) ∧
            ((∃ u, w5.cell? ⟨w4.heap.size, 1, none⟩ = some u) ∧ w5.frozen? ⟨w4.heap.size, 1, none⟩ = false ∧ w5.cell? ⟨w4.heap.size, 0, none⟩ = some (sv (rtA s)) ∧ w4.heap.size < w5.heap.size) ∧
            ((w5.setCell ⟨w4.heap.size, 1, none⟩ (sv (kyV s))).cell? ⟨w4.heap.size, 0, none⟩ = some (sv (rtA s)) ∧ (w5.setCell ⟨w4.heap.size, 1, none⟩ (sv (kyV s))).cell? ⟨w4.heap.size, 1, none⟩ = some (sv (kyV s)) ∧ (w5.setCell ⟨w4.heap.size, 1, none⟩ (sv (kyV s))).cell? ⟨w2.heap.size, 0, none⟩ = some (.slice va L.length vc) ∧ (∀ ga, va = some ⟨ga, 0, none⟩ → 0 < j → (w5.setCell ⟨w4.heap.size, 1, none⟩ (sv (kyV s))).cell? ⟨ga, (j - 1) * 2, none⟩ = some (sv (lastK L)))) ∧
            Hid (Below w.heap.size w (w5.setCell ⟨w4.heap.size, 1, none⟩ (sv (kyV s)))) ∧
            Hid (L = [] ∨ klt (lastK L) (rtA s) → Calls Tryz.prog 23 #[.pointer (some ⟨w2.heap.size, 0, none⟩), sv (rtA s), sv (kyV s)] (w5.setCell ⟨w4.heap.size, 1, none⟩ (sv (kyV s))).drew fun e w7 => e = .returned (.int .i64 (if longB (rtA s) (kyV s) then 41 else 0)) ∧ (w7.cell? ⟨w4.heap.size, 0, none⟩ = some (sv (rtA s)) ∧ w7.cell? ⟨w4.heap.size, 1, none⟩ = some (sv (kyV s))) ∧ Hid (Below w.heap.size w w7 ∧ (longB (rtA s) (kyV s) = false → ∃ v', RdD w.heap.size q g w2.heap.size v' (L ++ [(rtA s, kyV s)]) bs (kyN s) w w7))))) := hidb (by
          have D0 := HK.out.2.1
          refine D0.text.mono ?_
          rintro e w4 ⟨rfl, k4, D4⟩
          refine ⟨rfl, hidb ?_⟩
          obtain ⟨X, hX⟩ : ∃ X, X = w4.alloc (.cells #[sv (rtA s), sv []] 55) := ⟨_, rfl⟩
          have bX : Below w4.heap.size w4 X := by rw [hX]; exact (Below.refl _ _).alloc (Nat.le_refl _) _
          have eX : X.heap[w4.heap.size]? = some (.cells #[sv (rtA s), sv []] 55 (0, 0)) := by rw [hX]; exact heap_alloc_new w4 _
          rw [← hX]
          have DX := D4.below bX
          obtain ⟨l1, l2, l3, l4, l5, l6, l7⟩ := D4.lo
          have hrb := heap_ltb D4.st.box
          refine DX.text.mono ?_
          rintro e w5 ⟨rfl, k5, D5⟩
          have e5 : w5.heap[w4.heap.size]? = some (.cells #[sv (rtA s), sv []] 55 (0, 0)) := (k5.block _ (heap_ltb eX) (by omega)).trans eX
          have e6 : (w5.setCell ⟨w4.heap.size, 1, none⟩ (sv (kyV s))).heap[w4.heap.size]? = some (.cells #[sv (rtA s), sv (kyV s)] 55 (0, 0)) := heap_setCell_same _ _ _ _ _ _ e5
          have hown : ∀ i, v.ownBlock = some i → i < w4.heap.size := fun i hi => (D4.own i hi).2.2.2
          have D6 : RdD w.heap.size q g w2.heap.size v L bs (kyN s) w (w5.setCell ⟨w4.heap.size, 1, none⟩ (sv (kyV s))) := D5.kt (S := fun i => i = w4.heap.size) ((Kt.refl _ w5).set (fun _ => rfl)) (by omega) (by omega) (by omega) (fun i hi e => by have := hown i hi; omega) (fun i hi e => by have := D4.bel.size; omega)
          refine ⟨rfl, ⟨⟨_, Lib.cell_of_heap e5 1⟩, Lib.frozen_of_heap e5 1, Lib.cell_of_heap e5 0, heap_ltb e5⟩, ⟨Lib.cell_of_heap e6 0, Lib.cell_of_heap e6 1, by rw [← hv]; exact D6.st.c, fun ga hga h0 => ?_⟩, hidb D6.bel, hidb fun ho => ?_⟩
          · have hrow := D6.st.row
            rw [hv] at hrow
            obtain ⟨g', e', _, hc, _⟩ := row_pairR hrow (k := j - 1) (by omega)
            rw [hga] at e'
            cases e'
            rw [hc]
            congr 2
            rw [lastK, List.getLast?_eq_getElem?, List.getElem?_eq_getElem (by omega)]
            simp [hLj]
          · have D7 := D6.below (Below.refl _ _).drew
            refine (D7.put s (by omega) HK.out.2.2.2 ho).mono ?_
            rintro e w7 ⟨rfl, b7, k7, h7⟩
            have e7 : w7.heap[w4.heap.size]? = some (.cells #[sv (rtA s), sv (kyV s)] 55 (0, 0)) := (k7.block _ (heap_ltb e6) (by rintro (h | h); omega; have := hown _ h; omega)).trans e6
            exact ⟨rfl, ⟨Lib.cell_of_heap e7 0, Lib.cell_of_heap e7 1⟩, hidb ⟨b7, h7⟩⟩)
        have HGo : Hid (∀ W v', okP L s = true → RdD w.heap.size q g w2.heap.size v' (L ++ [(rtA s, kyV s)]) bs (kyN s) w W → ∃ (j' : Nat) (L' : Kvs) (s' : List UInt8 × Int) (v'' : Value) (g' : Nat), Value.int .i64 ((j : Int) + 1) = .int .i64 j' ∧ j' ≤ n ∧ Hid (L'.length = j' ∧ RdD w.heap.size q g' w2.heap.size v'' L' bs s' w W ∧ R = finR (dRun (n - j') L' s') ∧ s'.1.length ≤ 140737488355328)) := hidb fun W v' hok hA => ⟨j + 1, _, kyN s, v', g, by go_num, by omega, hidb ⟨by rw [List.length_append, hLj]; rfl, hA, by rw [HRun.out, if_pos hok], hle2⟩⟩
        have HRn : Hid (okP L s = false → R = none) := hidb fun h => by rw [HRun.out, if_neg (by rw [h]; decide)]
        have hL0 : j = 0 → L = [] := fun h => List.length_eq_zero_iff.1 (by omega)
        have hva : 0 < j → ∃ ga, va = some ⟨ga, 0, none⟩ := fun h => by
          have hrow := HK.out.2.1.st.row
          rw [hv] at hrow
          obtain ⟨g', e', _⟩ := row_pairR hrow (k := j - 1) (by omega)
          exact ⟨g', e'⟩
        have hcs : (¬ 0 < j ∧ (L = [] ∨ klt (lastK L) (rtA s)) ∧ okP L s = !longB (rtA s) (kyV s)) ∨ (0 < j ∧ Op.bytesLess (rtA s) (lastK L) = false ∧ (rtA s == lastK L) = false ∧ (L = [] ∨ klt (lastK L) (rtA s)) ∧ okP L s = !longB (rtA s) (kyV s)) ∨ (0 < j ∧ Op.bytesLess (rtA s) (lastK L) = true ∧ okP L s = false) ∨ (0 < j ∧ Op.bytesLess (rtA s) (lastK L) = false ∧ (rtA s == lastK L) = true ∧ okP L s = false) := by
          have ho := HOk.out
          by_cases h0 : j = 0
          · exact .inl ⟨by omega, .inl (hL0 h0), by rw [ho]; simp [h0]⟩
          · have hd : decide (j = 0) = false := by simpa using h0
            rcases klt_tri (lastK L) (rtA s) with h1 | h1 | ⟨h1, h2⟩
            · refine .inr (.inl ⟨by omega, by simpa using klt_asymm h1, by simpa using (klt_ne h1).symm, .inr h1, ?_⟩)
              rw [ho, hd]
              have h1' : Op.bytesLess (lastK L) (rtA s) = true := h1
              rw [h1']
              simp
            · refine .inr (.inr (.inl ⟨by omega, h1, ?_⟩))
              rw [ho, hd]
              have := klt_asymm (a := rtA s) (b := lastK L) h1
              have h3 : Op.bytesLess (lastK L) (rtA s) = false := by simpa using this
              rw [h3]
              simp
            · refine .inr (.inr (.inr ⟨by omega, h1, h2, ?_⟩))
              rw [ho, hd]
              have e : rtA s = lastK L := by simpa using h2
              rw [← e] at h1 ⊢
              rw [h1]
              simp
        have hLn : L.length = j := hLj
        clear HK HRun HOk hemp hle2 hL0 hLj
        generalize rtA s = key at *
        generalize kyV s = val at *
        generalize lastK L = lk at *
        generalize okP L s = ok at *
        rw [hLn] at HT1
        have HLn := hidb hLn
        clear hLn hv
        generalize longB key val = lg at *
        rcases hcs with ⟨hd, ho, hok⟩ | ⟨hd, hb1, hb2, ho, hok⟩ | ⟨hd, hb1, hok⟩ | ⟨hd, hb1, hb2, hok⟩
        · have Ho := hidb ho
          clear ho hva
          go_wp2_with (first
            | (go_at_call 22; first | (refine HT1.out.mono ?_; clear HT1; rintro e w4 ⟨rfl, HT2⟩) | (refine HT2.out.mono ?_; clear HT2; rintro e w5 ⟨rfl, ⟨⟨u1, k1⟩, f1, k0, hsz⟩, ⟨y0, y1, y2, y3⟩, HB, HP⟩))
            | fail)
          obtain ⟨w6, hw6⟩ : ∃ w6, w6 = w5.setCell ⟨w4.heap.size, 1, none⟩ (sv val) := ⟨_, rfl⟩
          rw [← hw6] at y0 y1 y2 y3 HB HP ⊢
          clear hw6 k1 f1 k0 hsz
          clear y2 y3
          obtain ⟨Fin, hFin⟩ : ∃ Fin : World → Prop, Fin = fun W => Below w.heap.size w W ∧ (lg = false → ∃ v', RdD w.heap.size q g w2.heap.size v' (L ++ [(key, val)]) bs (kyN s) w W) := ⟨_, rfl⟩
          have HPu : Hid (Calls Tryz.prog 23 #[.pointer (some ⟨w2.heap.size, 0, none⟩), sv key, sv val] w6.drew fun e W' => e = .returned (.int .i64 (if lg then 41 else 0)) ∧ Hid (Fin W')) := hidb ((HP.out Ho.out).mono fun e W' h => ⟨h.1, by rw [hFin]; exact h.2.2⟩)
          clear HP
          have c0 : w6.drew.cell? ⟨w4.heap.size, 0, none⟩ = some (sv key) := y0
          have c1 : w6.drew.cell? ⟨w4.heap.size, 1, none⟩ = some (sv val) := y1
          have hlg2 : ((if lg then (41 : Int) else 0) != 0) = lg := by cases lg <;> rfl
          have hTab : ∃ T : Nat → Value, T 0 = .int .i64 (j : Int) ∧ T 1 = .bool false ∧ T 2 = .bool false ∧ T 3 = undef ∧ T 4 = undef ∧ T 5 = undef ∧ T 6 = undef ∧ T 7 = undef ∧ T 8 = undef ∧ T 9 = undef ∧ T 10 = undef ∧ T 11 = undef ∧ T 12 = undef ∧ T 13 = undef ∧ T 14 = undef ∧ T 15 = .bool false ∧ T 16 = .bool false ∧ T 17 = .pointer (some ⟨w2.heap.size, 0, none⟩) ∧ T 18 = .pointer (some ⟨w4.heap.size, 0, none⟩) ∧ T 19 = sv key ∧ T 20 = .pointer (some ⟨w4.heap.size, 1, none⟩) ∧ T 21 = sv val ∧ T 22 = .int .i64 (if lg then 41 else 0) ∧ T 23 = .bool lg ∧ T 24 = .bool lg := ⟨fun i => match i with | 0 => .int .i64 (j : Int) | 1 => .bool false | 2 => .bool false | 3 => undef | 4 => undef | 5 => undef | 6 => undef | 7 => undef | 8 => undef | 9 => undef | 10 => undef | 11 => undef | 12 => undef | 13 => undef | 14 => undef | 15 => .bool false | 16 => .bool false | 17 => .pointer (some ⟨w2.heap.size, 0, none⟩) | 18 => .pointer (some ⟨w4.heap.size, 0, none⟩) | 19 => sv key | 20 => .pointer (some ⟨w4.heap.size, 1, none⟩) | 21 => sv val | 22 => .int .i64 (if lg then 41 else 0) | 23 => .bool lg | 24 => .bool lg | _ => undef, rfl, rfl, rfl, rfl, rfl, rfl, rfl, rfl, rfl, rfl, rfl, rfl, rfl, rfl, rfl, rfl, rfl, rfl, rfl, rfl, rfl, rfl, rfl, rfl, rfl⟩
          obtain ⟨T, T0, T1, T2, T3, T4, T5, T6, T7, T8, T9, T10, T11, T12, T13, T14, T15, T16, T17, T18, T19, T20, T21, T22, T23, T24⟩ := hTab
          refine wp_region_eachg (by kernel_rfl) 68 rfl (by kernel_rfl) (fun listed W => if listed.getD 22 false = true then Hid (Fin W) else W = w6.drew) (fun _ i v _ => v = T i) ?start ?each ?_
          case start => exact (if_neg (by simp)).mpr rfl
          case each =>
            intro i o ho listed a W hE hnl haf
            have hi : i < 25 := (Array.getElem?_eq_some_iff.1 ho).1
            have t6 : a.tmps[6]?.getD undef = .pointer (some ⟨w2.heap.size, 0, none⟩) := hE.rest 6 (rest_of (by kernel_rfl))
            have t7 : a.tmps[7]?.getD undef = .int .i64 (j : Int) := hE.rest 7 (rest_of (by kernel_rfl))
            have t8 : a.tmps[8]?.getD undef = .pointer (some ⟨w4.heap.size, 0, none⟩) := hE.rest 8 (rest_of (by kernel_rfl))
            have hG := hE.glob
            have hG2 : i ≠ 22 → (if (listed.setIfInBounds i true).getD 22 false = true then Hid (Fin W) else W = w6.drew) := fun h => by rw [getD_neK h]; exact hG
            match i, hi, ho, hnl, haf, hG2 with
            | 0, _, ho, hnl, haf, hG2 =>
              obtain rfl := Option.some.inj ho
              exact owesP_value (W' := _) rfl rfl (by simp [execOp, go_sem, t7]) T0.symm (hG2 (by decide)) (fun _ _ _ h => h)
            | 1, _, ho, hnl, haf, hG2 =>
              obtain rfl := Option.some.inj ho
              have h0 : a.tmps[39]?.getD undef = .int .i64 (j : Int) := (hE.vals 0 _ 39 rfl (haf ⟨0, .data⟩ (by simp) rfl) rfl).trans T0
              exact owesP_value (W' := _) rfl rfl (by simp [execOp, go_sem, h0]; omega) T1.symm (hG2 (by decide)) (fun _ _ _ h => h)
            | 2, _, ho, hnl, haf, hG2 =>
              obtain rfl := Option.some.inj ho
              have h1 : a.tmps[40]?.getD undef = .bool false := (hE.vals 1 _ 40 rfl (haf ⟨1, .data⟩ (by simp) rfl) rfl).trans T1
              exact owesP_value (W' := _) rfl rfl (by simp [execOp, go_sem, h1]) T2.symm (hG2 (by decide)) (fun _ _ _ h => h)
            | 3, _, ho, hnl, haf, hG2 =>
              obtain rfl := Option.some.inj ho
              have hg : a.tmps[41]?.getD undef = .bool false := (hE.vals 2 _ 41 rfl (haf ⟨2, .guard⟩ (by simp) rfl) rfl).trans T2
              exact owesP_none rfl ((wanted_is rfl rfl hg).trans rfl) T3.symm (hG2 (by decide)) (fun _ _ _ h => h)
            | 4, _, ho, hnl, haf, hG2 =>
              obtain rfl := Option.some.inj ho
              have h3 : a.tmps[42]?.getD undef = undef := (hE.vals 3 _ 42 rfl (haf ⟨3, .data⟩ (by simp) rfl) rfl).trans T3
              have hg : a.tmps[41]?.getD undef = .bool false := (hE.vals 2 _ 41 rfl (haf ⟨2, .guard⟩ (by simp) rfl) rfl).trans T2
              exact owesP_none rfl ((wanted_is rfl rfl hg).trans rfl) T4.symm (hG2 (by decide)) (fun _ _ _ h => h)
            | 5, _, ho, hnl, haf, hG2 =>
              obtain rfl := Option.some.inj ho
              have hg : a.tmps[41]?.getD undef = .bool false := (hE.vals 2 _ 41 rfl (haf ⟨2, .guard⟩ (by simp) rfl) rfl).trans T2
              exact owesP_none rfl ((wanted_is rfl rfl hg).trans rfl) T5.symm (hG2 (by decide)) (fun _ _ _ h => h)
            | 6, _, ho, hnl, haf, hG2 =>
              obtain rfl := Option.some.inj ho
              have h5 : a.tmps[44]?.getD undef = undef := (hE.vals 5 _ 44 rfl (haf ⟨5, .data⟩ (by simp) rfl) rfl).trans T5
              have hg : a.tmps[41]?.getD undef = .bool false := (hE.vals 2 _ 41 rfl (haf ⟨2, .guard⟩ (by simp) rfl) rfl).trans T2
              exact owesP_none rfl ((wanted_is rfl rfl hg).trans rfl) T6.symm (hG2 (by decide)) (fun _ _ _ h => h)
            | 7, _, ho, hnl, haf, hG2 =>
              obtain rfl := Option.some.inj ho
              have h6 : a.tmps[45]?.getD undef = undef := (hE.vals 6 _ 45 rfl (haf ⟨6, .data⟩ (by simp) rfl) rfl).trans T6
              have hg : a.tmps[41]?.getD undef = .bool false := (hE.vals 2 _ 41 rfl (haf ⟨2, .guard⟩ (by simp) rfl) rfl).trans T2
              exact owesP_none rfl ((wanted_is rfl rfl hg).trans rfl) T7.symm (hG2 (by decide)) (fun _ _ _ h => h)
            | 8, _, ho, hnl, haf, hG2 =>
              obtain rfl := Option.some.inj ho
              have h7 : a.tmps[46]?.getD undef = undef := (hE.vals 7 _ 46 rfl (haf ⟨7, .data⟩ (by simp) rfl) rfl).trans T7
              have hg : a.tmps[41]?.getD undef = .bool false := (hE.vals 2 _ 41 rfl (haf ⟨2, .guard⟩ (by simp) rfl) rfl).trans T2
              exact owesP_none rfl ((wanted_is rfl rfl hg).trans rfl) T8.symm (hG2 (by decide)) (fun _ _ _ h => h)
            | 9, _, ho, hnl, haf, hG2 =>
              obtain rfl := Option.some.inj ho
              have hg : a.tmps[41]?.getD undef = .bool false := (hE.vals 2 _ 41 rfl (haf ⟨2, .guard⟩ (by simp) rfl) rfl).trans T2
              exact owesP_none rfl ((wanted_is rfl rfl hg).trans rfl) T9.symm (hG2 (by decide)) (fun _ _ _ h => h)
            | 10, _, ho, hnl, haf, hG2 =>
              obtain rfl := Option.some.inj ho
              have h9 : a.tmps[48]?.getD undef = undef := (hE.vals 9 _ 48 rfl (haf ⟨9, .data⟩ (by simp) rfl) rfl).trans T9
              have hg : a.tmps[41]?.getD undef = .bool false := (hE.vals 2 _ 41 rfl (haf ⟨2, .guard⟩ (by simp) rfl) rfl).trans T2
              exact owesP_none rfl ((wanted_is rfl rfl hg).trans rfl) T10.symm (hG2 (by decide)) (fun _ _ _ h => h)
            | 11, _, ho, hnl, haf, hG2 =>
              obtain rfl := Option.some.inj ho
              have h8 : a.tmps[47]?.getD undef = undef := (hE.vals 8 _ 47 rfl (haf ⟨8, .data⟩ (by simp) rfl) rfl).trans T8
              have h10 : a.tmps[49]?.getD undef = undef := (hE.vals 10 _ 49 rfl (haf ⟨10, .data⟩ (by simp) rfl) rfl).trans T10
              have hg : a.tmps[41]?.getD undef = .bool false := (hE.vals 2 _ 41 rfl (haf ⟨2, .guard⟩ (by simp) rfl) rfl).trans T2
              exact owesP_none rfl ((wanted_is rfl rfl hg).trans rfl) T11.symm (hG2 (by decide)) (fun _ _ _ h => h)
            | 12, _, ho, hnl, haf, hG2 =>
              obtain rfl := Option.some.inj ho
              have h11 : a.tmps[50]?.getD undef = undef := (hE.vals 11 _ 50 rfl (haf ⟨11, .data⟩ (by simp) rfl) rfl).trans T11
              have hg : a.tmps[41]?.getD undef = .bool false := (hE.vals 2 _ 41 rfl (haf ⟨2, .guard⟩ (by simp) rfl) rfl).trans T2
              exact owesP_none rfl ((wanted_is rfl rfl hg).trans rfl) T12.symm (hG2 (by decide)) (fun _ _ _ h => h)
            | 13, _, ho, hnl, haf, hG2 =>
              obtain rfl := Option.some.inj ho
              have h12 : a.tmps[51]?.getD undef = undef := (hE.vals 12 _ 51 rfl (haf ⟨12, .data⟩ (by simp) rfl) rfl).trans T12
              have hg : a.tmps[41]?.getD undef = .bool false := (hE.vals 2 _ 41 rfl (haf ⟨2, .guard⟩ (by simp) rfl) rfl).trans T2
              exact owesP_none rfl ((wanted_is rfl rfl hg).trans rfl) T13.symm (hG2 (by decide)) (fun _ _ _ h => h)
            | 14, _, ho, hnl, haf, hG2 =>
              obtain rfl := Option.some.inj ho
              have h4 : a.tmps[43]?.getD undef = undef := (hE.vals 4 _ 43 rfl (haf ⟨4, .data⟩ (by simp) rfl) rfl).trans T4
              have h13 : a.tmps[52]?.getD undef = undef := (hE.vals 13 _ 52 rfl (haf ⟨13, .data⟩ (by simp) rfl) rfl).trans T13
              have hg : a.tmps[41]?.getD undef = .bool false := (hE.vals 2 _ 41 rfl (haf ⟨2, .guard⟩ (by simp) rfl) rfl).trans T2
              exact owesP_none rfl ((wanted_is rfl rfl hg).trans rfl) T14.symm (hG2 (by decide)) (fun _ _ _ h => h)
            | 15, _, ho, hnl, haf, hG2 =>
              obtain rfl := Option.some.inj ho
              have h2 : a.tmps[41]?.getD undef = .bool false := (hE.vals 2 _ 41 rfl (haf ⟨2, .data⟩ (by simp) rfl) rfl).trans T2
              have h14 : a.tmps[53]?.getD undef = undef := (hE.vals 14 _ 53 rfl (haf ⟨14, .data⟩ (by simp) rfl) rfl).trans T14
              exact owesP_value (W' := _) rfl rfl (by simp [execOp, go_sem, h2]) T15.symm (hG2 (by decide)) (fun _ _ _ h => h)
            | 16, _, ho, hnl, haf, hG2 =>
              obtain rfl := Option.some.inj ho
              have h15 : a.tmps[54]?.getD undef = .bool false := (hE.vals 15 _ 54 rfl (haf ⟨15, .data⟩ (by simp) rfl) rfl).trans T15
              exact owesP_value (W' := _) rfl rfl (by simp [execOp, go_sem, h15]) T16.symm (hG2 (by decide)) (fun _ _ _ h => h)
            | 17, _, ho, hnl, haf, hG2 =>
              obtain rfl := Option.some.inj ho
              have hg : a.tmps[55]?.getD undef = .bool false := (hE.vals 16 _ 55 rfl (haf ⟨16, .guard⟩ (by simp) rfl) rfl).trans T16
              exact owesP_value (W' := _) rfl ((wanted_is rfl rfl hg).trans rfl) (by simp [execOp, go_sem, t6]) T17.symm (hG2 (by decide)) (fun _ _ _ h => h)
            | 18, _, ho, hnl, haf, hG2 =>
              obtain rfl := Option.some.inj ho
              have hg : a.tmps[55]?.getD undef = .bool false := (hE.vals 16 _ 55 rfl (haf ⟨16, .guard⟩ (by simp) rfl) rfl).trans T16
              exact owesP_value (W' := _) rfl ((wanted_is rfl rfl hg).trans rfl) (by simp [execOp, go_sem, t8]) T18.symm (hG2 (by decide)) (fun _ _ _ h => h)
            | 19, _, ho, hnl, haf, hG2 =>
              obtain rfl := Option.some.inj ho
              have h18 : a.tmps[57]?.getD undef = .pointer (some ⟨w4.heap.size, 0, none⟩) := (hE.vals 18 _ 57 rfl (haf ⟨18, .data⟩ (by simp) rfl) rfl).trans T18
              have hg : a.tmps[55]?.getD undef = .bool false := (hE.vals 16 _ 55 rfl (haf ⟨16, .guard⟩ (by simp) rfl) rfl).trans T16
              have hoff : listed.getD 22 false = false := by
                cases h22 : listed.getD 22 false with
                | false => rfl
                | true =>
                  have h22 := hE.closed 22 _ rfl h22 ⟨19, .data⟩ (by simp) rfl
                  rw [getD_off hnl] at h22
                  cases h22
              have hW : W = w6.drew := by rw [hoff] at hG; simpa using hG
              subst hW
              exact owesP_value (W' := _) rfl ((wanted_is rfl rfl hg).trans rfl) (by simp [execOp, go_sem, h18, c0]) T19.symm (hG2 (by decide)) (fun _ _ _ h => h)
            | 20, _, ho, hnl, haf, hG2 =>
              obtain rfl := Option.some.inj ho
              have hg : a.tmps[55]?.getD undef = .bool false := (hE.vals 16 _ 55 rfl (haf ⟨16, .guard⟩ (by simp) rfl) rfl).trans T16
              exact owesP_value (W' := _) rfl ((wanted_is rfl rfl hg).trans rfl) (by simp [execOp, go_sem, t8]) T20.symm (hG2 (by decide)) (fun _ _ _ h => h)
            | 21, _, ho, hnl, haf, hG2 =>
              obtain rfl := Option.some.inj ho
              have h20 : a.tmps[59]?.getD undef = .pointer (some ⟨w4.heap.size, 1, none⟩) := (hE.vals 20 _ 59 rfl (haf ⟨20, .data⟩ (by simp) rfl) rfl).trans T20
              have hg : a.tmps[55]?.getD undef = .bool false := (hE.vals 16 _ 55 rfl (haf ⟨16, .guard⟩ (by simp) rfl) rfl).trans T16
              have hoff : listed.getD 22 false = false := by
                cases h22 : listed.getD 22 false with
                | false => rfl
                | true =>
                  have h22 := hE.closed 22 _ rfl h22 ⟨21, .data⟩ (by simp) rfl
                  rw [getD_off hnl] at h22
                  cases h22
              have hW : W = w6.drew := by rw [hoff] at hG; simpa using hG
              subst hW
              exact owesP_value (W' := _) rfl ((wanted_is rfl rfl hg).trans rfl) (by simp [execOp, go_sem, h20, c1]) T21.symm (hG2 (by decide)) (fun _ _ _ h => h)
            | 22, _, ho, hnl, haf, hG2 =>
              obtain rfl := Option.some.inj ho
              have h17 : a.tmps[56]?.getD undef = .pointer (some ⟨w2.heap.size, 0, none⟩) := (hE.vals 17 _ 56 rfl (haf ⟨17, .data⟩ (by simp) rfl) rfl).trans T17
              have h19 : a.tmps[58]?.getD undef = sv key := (hE.vals 19 _ 58 rfl (haf ⟨19, .data⟩ (by simp) rfl) rfl).trans T19
              have h21 : a.tmps[60]?.getD undef = sv val := (hE.vals 21 _ 60 rfl (haf ⟨21, .data⟩ (by simp) rfl) rfl).trans T21
              have hg : a.tmps[55]?.getD undef = .bool false := (hE.vals 16 _ 55 rfl (haf ⟨16, .guard⟩ (by simp) rfl) rfl).trans T16
              have hoff : listed.getD 22 false = false := by
                exact getD_off hnl
              have hW : W = w6.drew := by rw [hoff] at hG; simpa using hG
              subst hW
              refine owesP_call rfl ((wanted_is rfl rfl hg).trans rfl) (R := _) (by simp [execOp, go_sem, h17, h19, h21]) HPu.out fun e W' h => ?_
              obtain ⟨he, hf⟩ := h
              exact ⟨_, he, T22.symm, (if_pos (by rw [getD_set, if_pos ⟨rfl, getD_lt hnl⟩])).mpr hf, fun _ _ _ h => h⟩
            | 23, _, ho, hnl, haf, hG2 =>
              obtain rfl := Option.some.inj ho
              have h22 : a.tmps[61]?.getD undef = .int .i64 (if lg then 41 else 0) := (hE.vals 22 _ 61 rfl (haf ⟨22, .data⟩ (by simp) rfl) rfl).trans T22
              have hg : a.tmps[55]?.getD undef = .bool false := (hE.vals 16 _ 55 rfl (haf ⟨16, .guard⟩ (by simp) rfl) rfl).trans T16
              exact owesP_value (W' := _) rfl ((wanted_is rfl rfl hg).trans rfl) (by simp [execOp, go_sem, h22, hlg2]) T23.symm (hG2 (by decide)) (fun _ _ _ h => h)
            | 24, _, ho, hnl, haf, hG2 =>
              obtain rfl := Option.some.inj ho
              have h16 : a.tmps[55]?.getD undef = .bool false := (hE.vals 16 _ 55 rfl (haf ⟨16, .data⟩ (by simp) rfl) rfl).trans T16
              have h23 : a.tmps[62]?.getD undef = .bool lg := (hE.vals 23 _ 62 rfl (haf ⟨23, .data⟩ (by simp) rfl) rfl).trans T23
              exact owesP_value (W' := _) rfl rfl (by simp [execOp, go_sem, h16, h23]) T24.symm (hG2 (by decide)) (fun _ _ _ h => h)
          intro a W hE
          have h24 : a.tmps[63]?.getD undef = .bool lg := (hE.vals 24 _ 63 rfl (by rfl) rfl).trans T24
          have hF : Hid (Fin W) := by have := hE.glob; simpa using this
          have hsz := hE.tsize
          have hdf := hE.defers
          have r := fun t h => hE.rest t h
          obtain ⟨tm, df⟩ := a
          simp only at hsz hdf r h24
          have htm := arr_out 68 tm (by rw [hsz]; rfl) undef
          simp only [List.range, List.range.loop, List.map_cons, List.map_nil] at htm
          rw [show tm[0]?.getD undef = _ from r 0 (rest_of (by kernel_rfl))] at htm
          rw [show tm[1]?.getD undef = _ from r 1 (rest_of (by kernel_rfl))] at htm
          rw [show tm[2]?.getD undef = _ from r 2 (rest_of (by kernel_rfl))] at htm
          rw [show tm[3]?.getD undef = _ from r 3 (rest_of (by kernel_rfl))] at htm
          rw [show tm[4]?.getD undef = _ from r 4 (rest_of (by kernel_rfl))] at htm
          rw [show tm[5]?.getD undef = _ from r 5 (rest_of (by kernel_rfl))] at htm
          rw [show tm[6]?.getD undef = _ from r 6 (rest_of (by kernel_rfl))] at htm
          rw [show tm[7]?.getD undef = _ from r 7 (rest_of (by kernel_rfl))] at htm
          rw [show tm[8]?.getD undef = _ from r 8 (rest_of (by kernel_rfl))] at htm
          rw [show tm[9]?.getD undef = _ from r 9 (rest_of (by kernel_rfl))] at htm
          rw [show tm[10]?.getD undef = _ from r 10 (rest_of (by kernel_rfl))] at htm
          rw [show tm[11]?.getD undef = _ from r 11 (rest_of (by kernel_rfl))] at htm
          rw [show tm[12]?.getD undef = _ from r 12 (rest_of (by kernel_rfl))] at htm
          rw [show tm[13]?.getD undef = _ from r 13 (rest_of (by kernel_rfl))] at htm
          rw [show tm[14]?.getD undef = _ from r 14 (rest_of (by kernel_rfl))] at htm
          rw [show tm[15]?.getD undef = _ from r 15 (rest_of (by kernel_rfl))] at htm
          rw [show tm[16]?.getD undef = _ from r 16 (rest_of (by kernel_rfl))] at htm
          rw [show tm[17]?.getD undef = _ from r 17 (rest_of (by kernel_rfl))] at htm
          rw [show tm[18]?.getD undef = _ from r 18 (rest_of (by kernel_rfl))] at htm
          rw [show tm[19]?.getD undef = _ from r 19 (rest_of (by kernel_rfl))] at htm
          rw [show tm[20]?.getD undef = _ from r 20 (rest_of (by kernel_rfl))] at htm
          rw [show tm[21]?.getD undef = _ from r 21 (rest_of (by kernel_rfl))] at htm
          rw [show tm[22]?.getD undef = _ from r 22 (rest_of (by kernel_rfl))] at htm
          rw [show tm[23]?.getD undef = _ from r 23 (rest_of (by kernel_rfl))] at htm
          rw [show tm[24]?.getD undef = _ from r 24 (rest_of (by kernel_rfl))] at htm
          rw [show tm[25]?.getD undef = _ from r 25 (rest_of (by kernel_rfl))] at htm
          rw [show tm[26]?.getD undef = _ from r 26 (rest_of (by kernel_rfl))] at htm
          rw [show tm[27]?.getD undef = _ from r 27 (rest_of (by kernel_rfl))] at htm
          rw [show tm[28]?.getD undef = _ from r 28 (rest_of (by kernel_rfl))] at htm
          rw [show tm[29]?.getD undef = _ from r 29 (rest_of (by kernel_rfl))] at htm
          rw [show tm[30]?.getD undef = _ from r 30 (rest_of (by kernel_rfl))] at htm
          rw [show tm[31]?.getD undef = _ from r 31 (rest_of (by kernel_rfl))] at htm
          rw [show tm[32]?.getD undef = _ from r 32 (rest_of (by kernel_rfl))] at htm
          rw [show tm[33]?.getD undef = _ from r 33 (rest_of (by kernel_rfl))] at htm
          rw [show tm[34]?.getD undef = _ from r 34 (rest_of (by kernel_rfl))] at htm
          rw [show tm[35]?.getD undef = _ from r 35 (rest_of (by kernel_rfl))] at htm
          rw [show tm[36]?.getD undef = _ from r 36 (rest_of (by kernel_rfl))] at htm
          rw [show tm[37]?.getD undef = _ from r 37 (rest_of (by kernel_rfl))] at htm
          rw [show tm[38]?.getD undef = _ from r 38 (rest_of (by kernel_rfl))] at htm
          rw [show tm[64]?.getD undef = _ from r 64 (rest_of (by kernel_rfl))] at htm
          rw [show tm[65]?.getD undef = _ from r 65 (rest_of (by kernel_rfl))] at htm
          rw [show tm[66]?.getD undef = _ from r 66 (rest_of (by kernel_rfl))] at htm
          rw [show tm[67]?.getD undef = _ from r 67 (rest_of (by kernel_rfl))] at htm
          rw [h24] at htm
          generalize tm[39]?.getD undef = u39 at htm
          generalize tm[40]?.getD undef = u40 at htm
          generalize tm[41]?.getD undef = u41 at htm
          generalize tm[42]?.getD undef = u42 at htm
          generalize tm[43]?.getD undef = u43 at htm
          generalize tm[44]?.getD undef = u44 at htm
          generalize tm[45]?.getD undef = u45 at htm
          generalize tm[46]?.getD undef = u46 at htm
          generalize tm[47]?.getD undef = u47 at htm
          generalize tm[48]?.getD undef = u48 at htm
          generalize tm[49]?.getD undef = u49 at htm
          generalize tm[50]?.getD undef = u50 at htm
          generalize tm[51]?.getD undef = u51 at htm
          generalize tm[52]?.getD undef = u52 at htm
          generalize tm[53]?.getD undef = u53 at htm
          generalize tm[54]?.getD undef = u54 at htm
          generalize tm[55]?.getD undef = u55 at htm
          generalize tm[56]?.getD undef = u56 at htm
          generalize tm[57]?.getD undef = u57 at htm
          generalize tm[58]?.getD undef = u58 at htm
          generalize tm[59]?.getD undef = u59 at htm
          generalize tm[60]?.getD undef = u60 at htm
          generalize tm[61]?.getD undef = u61 at htm
          generalize tm[62]?.getD undef = u62 at htm
          subst hdf
          rw [htm]
          clear hE htm hsz r h24
          rw [hFin] at hF
          have KF := hF
          clear hF hFin HPu
          cases lg with
          | true =>
            have HE := hidb (HRn.out hok)
            clear HRn HGo hok
            go_wp2_with fail
            go_ret2
            exact HNo.out _ KF.out.1 HE.out
          | false =>
            have HGo2 := hidb (fun W v' => HGo.out W v' hok)
            clear HRn HGo hok
            go_wp2_with fail
            obtain ⟨v', hD⟩ := KF.out.2 (by trivial)
            obtain ⟨j', L', ⟨s1, s2⟩, v'', g', e1, e2, H⟩ := HGo2.out _ v' hD
            exact ⟨⟨_, _, _, ⟨j', rfl, e2, L', s1, s2, v'', g', H⟩, rfl, rfl, e1⟩, by simp [intOf]; omega⟩
        · have Ho := hidb ho
          clear ho
          go_wp2_with (first
            | (go_at_call 22; first | (refine HT1.out.mono ?_; clear HT1; rintro e w4 ⟨rfl, HT2⟩) | (refine HT2.out.mono ?_; clear HT2; rintro e w5 ⟨rfl, ⟨⟨u1, k1⟩, f1, k0, hsz⟩, ⟨y0, y1, y2, y3⟩, HB, HP⟩))
            | fail)
          obtain ⟨w6, hw6⟩ : ∃ w6, w6 = w5.setCell ⟨w4.heap.size, 1, none⟩ (sv val) := ⟨_, rfl⟩
          rw [← hw6] at y0 y1 y2 y3 HB HP ⊢
          clear hw6 k1 f1 k0 hsz
          obtain ⟨ga, rfl⟩ := hva hd
          have y4 := y3 ga rfl hd
          have hix : IntKind.i64.wrap ((j : Int) - 1) = ((j - 1 : Nat) : Int) := by rw [IntKind.wrap_i64]; omega
          have hil2 : ((j - 1 : Nat) : Int) < (j : Int) := by omega
          generalize j - 1 = jm at *
          clear y3
          obtain ⟨Fin, hFin⟩ : ∃ Fin : World → Prop, Fin = fun W => Below w.heap.size w W ∧ (lg = false → ∃ v', RdD w.heap.size q g w2.heap.size v' (L ++ [(key, val)]) bs (kyN s) w W) := ⟨_, rfl⟩
          have HPu : Hid (Calls Tryz.prog 23 #[.pointer (some ⟨w2.heap.size, 0, none⟩), sv key, sv val] w6.drew fun e W' => e = .returned (.int .i64 (if lg then 41 else 0)) ∧ Hid (Fin W')) := hidb ((HP.out Ho.out).mono fun e W' h => ⟨h.1, by rw [hFin]; exact h.2.2⟩)
          clear HP
          have c0 : w6.drew.cell? ⟨w4.heap.size, 0, none⟩ = some (sv key) := y0
          have c1 : w6.drew.cell? ⟨w4.heap.size, 1, none⟩ = some (sv val) := y1
          have hlg2 : ((if lg then (41 : Int) else 0) != 0) = lg := by cases lg <;> rfl
          have c2 : w6.drew.cell? ⟨w2.heap.size, 0, none⟩ = some (.slice (some ⟨ga, 0, none⟩) j vc) := y2
          have c3 : w6.drew.cell? ⟨ga, jm * 2, none⟩ = some (sv lk) := y4
          have hTab : ∃ T : Nat → Value, T 0 = .int .i64 (j : Int) ∧ T 1 = .bool true ∧ T 2 = .bool true ∧ T 3 = .pointer (some ⟨w4.heap.size, 0, none⟩) ∧ T 4 = sv key ∧ T 5 = .pointer (some ⟨w2.heap.size, 0, none⟩) ∧ T 6 = .pointer (some ⟨w2.heap.size, 0, none⟩) ∧ T 7 = .pointer (some ⟨w2.heap.size, 0, none⟩) ∧ T 8 = .slice (some ⟨ga, 0, none⟩) j vc ∧ T 9 = .int .i64 (j : Int) ∧ T 10 = .int .i64 (jm : Int) ∧ T 11 = .pointer (some ⟨ga, jm * 2, none⟩) ∧ T 12 = .pointer (some ⟨ga, jm * 2, none⟩) ∧ T 13 = sv lk ∧ T 14 = .bool false ∧ T 15 = .bool false ∧ T 16 = .bool false ∧ T 17 = .pointer (some ⟨w2.heap.size, 0, none⟩) ∧ T 18 = .pointer (some ⟨w4.heap.size, 0, none⟩) ∧ T 19 = sv key ∧ T 20 = .pointer (some ⟨w4.heap.size, 1, none⟩) ∧ T 21 = sv val ∧ T 22 = .int .i64 (if lg then 41 else 0) ∧ T 23 = .bool lg ∧ T 24 = .bool lg := ⟨fun i => match i with | 0 => .int .i64 (j : Int) | 1 => .bool true | 2 => .bool true | 3 => .pointer (some ⟨w4.heap.size, 0, none⟩) | 4 => sv key | 5 => .pointer (some ⟨w2.heap.size, 0, none⟩) | 6 => .pointer (some ⟨w2.heap.size, 0, none⟩) | 7 => .pointer (some ⟨w2.heap.size, 0, none⟩) | 8 => .slice (some ⟨ga, 0, none⟩) j vc | 9 => .int .i64 (j : Int) | 10 => .int .i64 (jm : Int) | 11 => .pointer (some ⟨ga, jm * 2, none⟩) | 12 => .pointer (some ⟨ga, jm * 2, none⟩) | 13 => sv lk | 14 => .bool false | 15 => .bool false | 16 => .bool false | 17 => .pointer (some ⟨w2.heap.size, 0, none⟩) | 18 => .pointer (some ⟨w4.heap.size, 0, none⟩) | 19 => sv key | 20 => .pointer (some ⟨w4.heap.size, 1, none⟩) | 21 => sv val | 22 => .int .i64 (if lg then 41 else 0) | 23 => .bool lg | 24 => .bool lg | _ => undef, rfl, rfl, rfl, rfl, rfl, rfl, rfl, rfl, rfl, rfl, rfl, rfl, rfl, rfl, rfl, rfl, rfl, rfl, rfl, rfl, rfl, rfl, rfl, rfl, rfl⟩
          obtain ⟨T, T0, T1, T2, T3, T4, T5, T6, T7, T8, T9, T10, T11, T12, T13, T14, T15, T16, T17, T18, T19, T20, T21, T22, T23, T24⟩ := hTab
          refine wp_region_eachg (by kernel_rfl) 68 rfl (by kernel_rfl) (fun listed W => if listed.getD 22 false = true then Hid (Fin W) else W = w6.drew) (fun _ i v _ => v = T i) ?start ?each ?_
          case start => exact (if_neg (by simp)).mpr rfl
          case each =>
            intro i o ho listed a W hE hnl haf
            have hi : i < 25 := (Array.getElem?_eq_some_iff.1 ho).1
            have t6 : a.tmps[6]?.getD undef = .pointer (some ⟨w2.heap.size, 0, none⟩) := hE.rest 6 (rest_of (by kernel_rfl))
            have t7 : a.tmps[7]?.getD undef = .int .i64 (j : Int) := hE.rest 7 (rest_of (by kernel_rfl))
            have t8 : a.tmps[8]?.getD undef = .pointer (some ⟨w4.heap.size, 0, none⟩) := hE.rest 8 (rest_of (by kernel_rfl))
            have hG := hE.glob
            have hG2 : i ≠ 22 → (if (listed.setIfInBounds i true).getD 22 false = true then Hid (Fin W) else W = w6.drew) := fun h => by rw [getD_neK h]; exact hG
            match i, hi, ho, hnl, haf, hG2 with
            | 0, _, ho, hnl, haf, hG2 =>
              obtain rfl := Option.some.inj ho
              exact owesP_value (W' := _) rfl rfl (by simp [execOp, go_sem, t7]) T0.symm (hG2 (by decide)) (fun _ _ _ h => h)
            | 1, _, ho, hnl, haf, hG2 =>
              obtain rfl := Option.some.inj ho
              have h0 : a.tmps[39]?.getD undef = .int .i64 (j : Int) := (hE.vals 0 _ 39 rfl (haf ⟨0, .data⟩ (by simp) rfl) rfl).trans T0
              exact owesP_value (W' := _) rfl rfl (by simp [execOp, go_sem, h0]; omega) T1.symm (hG2 (by decide)) (fun _ _ _ h => h)
            | 2, _, ho, hnl, haf, hG2 =>
              obtain rfl := Option.some.inj ho
              have h1 : a.tmps[40]?.getD undef = .bool true := (hE.vals 1 _ 40 rfl (haf ⟨1, .data⟩ (by simp) rfl) rfl).trans T1
              exact owesP_value (W' := _) rfl rfl (by simp [execOp, go_sem, h1]) T2.symm (hG2 (by decide)) (fun _ _ _ h => h)
            | 3, _, ho, hnl, haf, hG2 =>
              obtain rfl := Option.some.inj ho
              have hg : a.tmps[41]?.getD undef = .bool true := (hE.vals 2 _ 41 rfl (haf ⟨2, .guard⟩ (by simp) rfl) rfl).trans T2
              exact owesP_value (W' := _) rfl ((wanted_is rfl rfl hg).trans rfl) (by simp [execOp, go_sem, t8]) T3.symm (hG2 (by decide)) (fun _ _ _ h => h)
            | 4, _, ho, hnl, haf, hG2 =>
              obtain rfl := Option.some.inj ho
              have h3 : a.tmps[42]?.getD undef = .pointer (some ⟨w4.heap.size, 0, none⟩) := (hE.vals 3 _ 42 rfl (haf ⟨3, .data⟩ (by simp) rfl) rfl).trans T3
              have hg : a.tmps[41]?.getD undef = .bool true := (hE.vals 2 _ 41 rfl (haf ⟨2, .guard⟩ (by simp) rfl) rfl).trans T2
              have hoff : listed.getD 22 false = false := by
                cases h22 : listed.getD 22 false with
                | false => rfl
                | true =>
                  have h22 := hE.closed 22 _ rfl h22 ⟨16, .guard⟩ (by simp) rfl
                  have h22 := hE.closed 16 _ rfl h22 ⟨15, .data⟩ (by simp) rfl
                  have h22 := hE.closed 15 _ rfl h22 ⟨14, .data⟩ (by simp) rfl
                  have h22 := hE.closed 14 _ rfl h22 ⟨4, .data⟩ (by simp) rfl
                  rw [getD_off hnl] at h22
                  cases h22
              have hW : W = w6.drew := by rw [hoff] at hG; simpa using hG
              subst hW
              exact owesP_value (W' := _) rfl ((wanted_is rfl rfl hg).trans rfl) (by simp [execOp, go_sem, h3, c0]) T4.symm (hG2 (by decide)) (fun _ _ _ h => h)
            | 5, _, ho, hnl, haf, hG2 =>
              obtain rfl := Option.some.inj ho
              have hg : a.tmps[41]?.getD undef = .bool true := (hE.vals 2 _ 41 rfl (haf ⟨2, .guard⟩ (by simp) rfl) rfl).trans T2
              exact owesP_value (W' := _) rfl ((wanted_is rfl rfl hg).trans rfl) (by simp [execOp, go_sem, t6]) T5.symm (hG2 (by decide)) (fun _ _ _ h => h)
            | 6, _, ho, hnl, haf, hG2 =>
              obtain rfl := Option.some.inj ho
              have h5 : a.tmps[44]?.getD undef = .pointer (some ⟨w2.heap.size, 0, none⟩) := (hE.vals 5 _ 44 rfl (haf ⟨5, .data⟩ (by simp) rfl) rfl).trans T5
              have hg : a.tmps[41]?.getD undef = .bool true := (hE.vals 2 _ 41 rfl (haf ⟨2, .guard⟩ (by simp) rfl) rfl).trans T2
              exact owesP_value (W' := _) rfl ((wanted_is rfl rfl hg).trans rfl) (by simp [execOp, go_sem, h5]) T6.symm (hG2 (by decide)) (fun _ _ _ h => h)
            | 7, _, ho, hnl, haf, hG2 =>
              obtain rfl := Option.some.inj ho
              have h6 : a.tmps[45]?.getD undef = .pointer (some ⟨w2.heap.size, 0, none⟩) := (hE.vals 6 _ 45 rfl (haf ⟨6, .data⟩ (by simp) rfl) rfl).trans T6
              have hg : a.tmps[41]?.getD undef = .bool true := (hE.vals 2 _ 41 rfl (haf ⟨2, .guard⟩ (by simp) rfl) rfl).trans T2
              exact owesP_value (W' := _) rfl ((wanted_is rfl rfl hg).trans rfl) (by simp [execOp, go_sem, h6]) T7.symm (hG2 (by decide)) (fun _ _ _ h => h)
            | 8, _, ho, hnl, haf, hG2 =>
              obtain rfl := Option.some.inj ho
              have h7 : a.tmps[46]?.getD undef = .pointer (some ⟨w2.heap.size, 0, none⟩) := (hE.vals 7 _ 46 rfl (haf ⟨7, .data⟩ (by simp) rfl) rfl).trans T7
              have hg : a.tmps[41]?.getD undef = .bool true := (hE.vals 2 _ 41 rfl (haf ⟨2, .guard⟩ (by simp) rfl) rfl).trans T2
              have hoff : listed.getD 22 false = false := by
                cases h22 : listed.getD 22 false with
                | false => rfl
                | true =>
                  have h22 := hE.closed 22 _ rfl h22 ⟨16, .guard⟩ (by simp) rfl
                  have h22 := hE.closed 16 _ rfl h22 ⟨15, .data⟩ (by simp) rfl
                  have h22 := hE.closed 15 _ rfl h22 ⟨14, .data⟩ (by simp) rfl
                  have h22 := hE.closed 14 _ rfl h22 ⟨13, .data⟩ (by simp) rfl
                  have h22 := hE.closed 13 _ rfl h22 ⟨12, .data⟩ (by simp) rfl
                  have h22 := hE.closed 12 _ rfl h22 ⟨11, .data⟩ (by simp) rfl
                  have h22 := hE.closed 11 _ rfl h22 ⟨8, .data⟩ (by simp) rfl
                  rw [getD_off hnl] at h22
                  cases h22
              have hW : W = w6.drew := by rw [hoff] at hG; simpa using hG
              subst hW
              exact owesP_value (W' := _) rfl ((wanted_is rfl rfl hg).trans rfl) (by simp [execOp, go_sem, h7, c2]) T8.symm (hG2 (by decide)) (fun _ _ _ h => h)
            | 9, _, ho, hnl, haf, hG2 =>
              obtain rfl := Option.some.inj ho
              have hg : a.tmps[41]?.getD undef = .bool true := (hE.vals 2 _ 41 rfl (haf ⟨2, .guard⟩ (by simp) rfl) rfl).trans T2
              exact owesP_value (W' := _) rfl ((wanted_is rfl rfl hg).trans rfl) (by simp [execOp, go_sem, t7]) T9.symm (hG2 (by decide)) (fun _ _ _ h => h)
            | 10, _, ho, hnl, haf, hG2 =>
              obtain rfl := Option.some.inj ho
              have h9 : a.tmps[48]?.getD undef = .int .i64 (j : Int) := (hE.vals 9 _ 48 rfl (haf ⟨9, .data⟩ (by simp) rfl) rfl).trans T9
              have hg : a.tmps[41]?.getD undef = .bool true := (hE.vals 2 _ 41 rfl (haf ⟨2, .guard⟩ (by simp) rfl) rfl).trans T2
              exact owesP_value (W' := _) rfl ((wanted_is rfl rfl hg).trans rfl) (by simp [execOp, go_sem, h9, hix]) T10.symm (hG2 (by decide)) (fun _ _ _ h => h)
            | 11, _, ho, hnl, haf, hG2 =>
              obtain rfl := Option.some.inj ho
              have h8 : a.tmps[47]?.getD undef = .slice (some ⟨ga, 0, none⟩) j vc := (hE.vals 8 _ 47 rfl (haf ⟨8, .data⟩ (by simp) rfl) rfl).trans T8
              have h10 : a.tmps[49]?.getD undef = .int .i64 (jm : Int) := (hE.vals 10 _ 49 rfl (haf ⟨10, .data⟩ (by simp) rfl) rfl).trans T10
              have hg : a.tmps[41]?.getD undef = .bool true := (hE.vals 2 _ 41 rfl (haf ⟨2, .guard⟩ (by simp) rfl) rfl).trans T2
              exact owesP_value (W' := _) rfl ((wanted_is rfl rfl hg).trans rfl) (by simp [execOp, go_sem, h8, h10, hil2]) T11.symm (hG2 (by decide)) (fun _ _ _ h => h)
            | 12, _, ho, hnl, haf, hG2 =>
              obtain rfl := Option.some.inj ho
              have h11 : a.tmps[50]?.getD undef = .pointer (some ⟨ga, jm * 2, none⟩) := (hE.vals 11 _ 50 rfl (haf ⟨11, .data⟩ (by simp) rfl) rfl).trans T11
              have hg : a.tmps[41]?.getD undef = .bool true := (hE.vals 2 _ 41 rfl (haf ⟨2, .guard⟩ (by simp) rfl) rfl).trans T2
              exact owesP_value (W' := _) rfl ((wanted_is rfl rfl hg).trans rfl) (by simp [execOp, go_sem, h11]) T12.symm (hG2 (by decide)) (fun _ _ _ h => h)
            | 13, _, ho, hnl, haf, hG2 =>
              obtain rfl := Option.some.inj ho
              have h12 : a.tmps[51]?.getD undef = .pointer (some ⟨ga, jm * 2, none⟩) := (hE.vals 12 _ 51 rfl (haf ⟨12, .data⟩ (by simp) rfl) rfl).trans T12
              have hg : a.tmps[41]?.getD undef = .bool true := (hE.vals 2 _ 41 rfl (haf ⟨2, .guard⟩ (by simp) rfl) rfl).trans T2
              have hoff : listed.getD 22 false = false := by
                cases h22 : listed.getD 22 false with
                | false => rfl
                | true =>
                  have h22 := hE.closed 22 _ rfl h22 ⟨16, .guard⟩ (by simp) rfl
                  have h22 := hE.closed 16 _ rfl h22 ⟨15, .data⟩ (by simp) rfl
                  have h22 := hE.closed 15 _ rfl h22 ⟨14, .data⟩ (by simp) rfl
                  have h22 := hE.closed 14 _ rfl h22 ⟨13, .data⟩ (by simp) rfl
                  rw [getD_off hnl] at h22
                  cases h22
              have hW : W = w6.drew := by rw [hoff] at hG; simpa using hG
              subst hW
              exact owesP_value (W' := _) rfl ((wanted_is rfl rfl hg).trans rfl) (by simp [execOp, go_sem, h12, c3]) T13.symm (hG2 (by decide)) (fun _ _ _ h => h)
            | 14, _, ho, hnl, haf, hG2 =>
              obtain rfl := Option.some.inj ho
              have h4 : a.tmps[43]?.getD undef = sv key := (hE.vals 4 _ 43 rfl (haf ⟨4, .data⟩ (by simp) rfl) rfl).trans T4
              have h13 : a.tmps[52]?.getD undef = sv lk := (hE.vals 13 _ 52 rfl (haf ⟨13, .data⟩ (by simp) rfl) rfl).trans T13
              have hg : a.tmps[41]?.getD undef = .bool true := (hE.vals 2 _ 41 rfl (haf ⟨2, .guard⟩ (by simp) rfl) rfl).trans T2
              exact owesP_value (W' := _) rfl ((wanted_is rfl rfl hg).trans rfl) (by simp [execOp, go_sem, h4, h13, hb1, hb2]) T14.symm (hG2 (by decide)) (fun _ _ _ h => h)
            | 15, _, ho, hnl, haf, hG2 =>
              obtain rfl := Option.some.inj ho
              have h2 : a.tmps[41]?.getD undef = .bool true := (hE.vals 2 _ 41 rfl (haf ⟨2, .data⟩ (by simp) rfl) rfl).trans T2
              have h14 : a.tmps[53]?.getD undef = .bool false := (hE.vals 14 _ 53 rfl (haf ⟨14, .data⟩ (by simp) rfl) rfl).trans T14
              exact owesP_value (W' := _) rfl rfl (by simp [execOp, go_sem, h2, h14]) T15.symm (hG2 (by decide)) (fun _ _ _ h => h)
            | 16, _, ho, hnl, haf, hG2 =>
              obtain rfl := Option.some.inj ho
              have h15 : a.tmps[54]?.getD undef = .bool false := (hE.vals 15 _ 54 rfl (haf ⟨15, .data⟩ (by simp) rfl) rfl).trans T15
              exact owesP_value (W' := _) rfl rfl (by simp [execOp, go_sem, h15]) T16.symm (hG2 (by decide)) (fun _ _ _ h => h)
            | 17, _, ho, hnl, haf, hG2 =>
              obtain rfl := Option.some.inj ho
              have hg : a.tmps[55]?.getD undef = .bool false := (hE.vals 16 _ 55 rfl (haf ⟨16, .guard⟩ (by simp) rfl) rfl).trans T16
              exact owesP_value (W' := _) rfl ((wanted_is rfl rfl hg).trans rfl) (by simp [execOp, go_sem, t6]) T17.symm (hG2 (by decide)) (fun _ _ _ h => h)
            | 18, _, ho, hnl, haf, hG2 =>
              obtain rfl := Option.some.inj ho
              have hg : a.tmps[55]?.getD undef = .bool false := (hE.vals 16 _ 55 rfl (haf ⟨16, .guard⟩ (by simp) rfl) rfl).trans T16
              exact owesP_value (W' := _) rfl ((wanted_is rfl rfl hg).trans rfl) (by simp [execOp, go_sem, t8]) T18.symm (hG2 (by decide)) (fun _ _ _ h => h)
            | 19, _, ho, hnl, haf, hG2 =>
              obtain rfl := Option.some.inj ho
              have h18 : a.tmps[57]?.getD undef = .pointer (some ⟨w4.heap.size, 0, none⟩) := (hE.vals 18 _ 57 rfl (haf ⟨18, .data⟩ (by simp) rfl) rfl).trans T18
              have hg : a.tmps[55]?.getD undef = .bool false := (hE.vals 16 _ 55 rfl (haf ⟨16, .guard⟩ (by simp) rfl) rfl).trans T16
              have hoff : listed.getD 22 false = false := by
                cases h22 : listed.getD 22 false with
                | false => rfl
                | true =>
                  have h22 := hE.closed 22 _ rfl h22 ⟨19, .data⟩ (by simp) rfl
                  rw [getD_off hnl] at h22
                  cases h22
              have hW : W = w6.drew := by rw [hoff] at hG; simpa using hG
              subst hW
              exact owesP_value (W' := _) rfl ((wanted_is rfl rfl hg).trans rfl) (by simp [execOp, go_sem, h18, c0]) T19.symm (hG2 (by decide)) (fun _ _ _ h => h)
            | 20, _, ho, hnl, haf, hG2 =>
              obtain rfl := Option.some.inj ho
              have hg : a.tmps[55]?.getD undef = .bool false := (hE.vals 16 _ 55 rfl (haf ⟨16, .guard⟩ (by simp) rfl) rfl).trans T16
              exact owesP_value (W' := _) rfl ((wanted_is rfl rfl hg).trans rfl) (by simp [execOp, go_sem, t8]) T20.symm (hG2 (by decide)) (fun _ _ _ h => h)
            | 21, _, ho, hnl, haf, hG2 =>
              obtain rfl := Option.some.inj ho
              have h20 : a.tmps[59]?.getD undef = .pointer (some ⟨w4.heap.size, 1, none⟩) := (hE.vals 20 _ 59 rfl (haf ⟨20, .data⟩ (by simp) rfl) rfl).trans T20
              have hg : a.tmps[55]?.getD undef = .bool false := (hE.vals 16 _ 55 rfl (haf ⟨16, .guard⟩ (by simp) rfl) rfl).trans T16
              have hoff : listed.getD 22 false = false := by
                cases h22 : listed.getD 22 false with
                | false => rfl
                | true =>
                  have h22 := hE.closed 22 _ rfl h22 ⟨21, .data⟩ (by simp) rfl
                  rw [getD_off hnl] at h22
                  cases h22
              have hW : W = w6.drew := by rw [hoff] at hG; simpa using hG
              subst hW
              exact owesP_value (W' := _) rfl ((wanted_is rfl rfl hg).trans rfl) (by simp [execOp, go_sem, h20, c1]) T21.symm (hG2 (by decide)) (fun _ _ _ h => h)
            | 22, _, ho, hnl, haf, hG2 =>
              obtain rfl := Option.some.inj ho
              have h17 : a.tmps[56]?.getD undef = .pointer (some ⟨w2.heap.size, 0, none⟩) := (hE.vals 17 _ 56 rfl (haf ⟨17, .data⟩ (by simp) rfl) rfl).trans T17
              have h19 : a.tmps[58]?.getD undef = sv key := (hE.vals 19 _ 58 rfl (haf ⟨19, .data⟩ (by simp) rfl) rfl).trans T19
              have h21 : a.tmps[60]?.getD undef = sv val := (hE.vals 21 _ 60 rfl (haf ⟨21, .data⟩ (by simp) rfl) rfl).trans T21
              have hg : a.tmps[55]?.getD undef = .bool false := (hE.vals 16 _ 55 rfl (haf ⟨16, .guard⟩ (by simp) rfl) rfl).trans T16
              have hoff : listed.getD 22 false = false := by
                exact getD_off hnl
              have hW : W = w6.drew := by rw [hoff] at hG; simpa using hG
              subst hW
              refine owesP_call rfl ((wanted_is rfl rfl hg).trans rfl) (R := _) (by simp [execOp, go_sem, h17, h19, h21]) HPu.out fun e W' h => ?_
              obtain ⟨he, hf⟩ := h
              exact ⟨_, he, T22.symm, (if_pos (by rw [getD_set, if_pos ⟨rfl, getD_lt hnl⟩])).mpr hf, fun _ _ _ h => h⟩
            | 23, _, ho, hnl, haf, hG2 =>
              obtain rfl := Option.some.inj ho
              have h22 : a.tmps[61]?.getD undef = .int .i64 (if lg then 41 else 0) := (hE.vals 22 _ 61 rfl (haf ⟨22, .data⟩ (by simp) rfl) rfl).trans T22
              have hg : a.tmps[55]?.getD undef = .bool false := (hE.vals 16 _ 55 rfl (haf ⟨16, .guard⟩ (by simp) rfl) rfl).trans T16
              exact owesP_value (W' := _) rfl ((wanted_is rfl rfl hg).trans rfl) (by simp [execOp, go_sem, h22, hlg2]) T23.symm (hG2 (by decide)) (fun _ _ _ h => h)
            | 24, _, ho, hnl, haf, hG2 =>
              obtain rfl := Option.some.inj ho
              have h16 : a.tmps[55]?.getD undef = .bool false := (hE.vals 16 _ 55 rfl (haf ⟨16, .data⟩ (by simp) rfl) rfl).trans T16
              have h23 : a.tmps[62]?.getD undef = .bool lg := (hE.vals 23 _ 62 rfl (haf ⟨23, .data⟩ (by simp) rfl) rfl).trans T23
              exact owesP_value (W' := _) rfl rfl (by simp [execOp, go_sem, h16, h23]) T24.symm (hG2 (by decide)) (fun _ _ _ h => h)
          intro a W hE
          have h24 : a.tmps[63]?.getD undef = .bool lg := (hE.vals 24 _ 63 rfl (by rfl) rfl).trans T24
          have hF : Hid (Fin W) := by have := hE.glob; simpa using this
          have hsz := hE.tsize
          have hdf := hE.defers
          have r := fun t h => hE.rest t h
          obtain ⟨tm, df⟩ := a
          simp only at hsz hdf r h24
          have htm := arr_out 68 tm (by rw [hsz]; rfl) undef
          simp only [List.range, List.range.loop, List.map_cons, List.map_nil] at htm
          rw [show tm[0]?.getD undef = _ from r 0 (rest_of (by kernel_rfl))] at htm
          rw [show tm[1]?.getD undef = _ from r 1 (rest_of (by kernel_rfl))] at htm
          rw [show tm[2]?.getD undef = _ from r 2 (rest_of (by kernel_rfl))] at htm
          rw [show tm[3]?.getD undef = _ from r 3 (rest_of (by kernel_rfl))] at htm
          rw [show tm[4]?.getD undef = _ from r 4 (rest_of (by kernel_rfl))] at htm
          rw [show tm[5]?.getD undef = _ from r 5 (rest_of (by kernel_rfl))] at htm
          rw [show tm[6]?.getD undef = _ from r 6 (rest_of (by kernel_rfl))] at htm
          rw [show tm[7]?.getD undef = _ from r 7 (rest_of (by kernel_rfl))] at htm
          rw [show tm[8]?.getD undef = _ from r 8 (rest_of (by kernel_rfl))] at htm
          rw [show tm[9]?.getD undef = _ from r 9 (rest_of (by kernel_rfl))] at htm
          rw [show tm[10]?.getD undef = _ from r 10 (rest_of (by kernel_rfl))] at htm
          rw [show tm[11]?.getD undef = _ from r 11 (rest_of (by kernel_rfl))] at htm
          rw [show tm[12]?.getD undef = _ from r 12 (rest_of (by kernel_rfl))] at htm
          rw [show tm[13]?.getD undef = _ from r 13 (rest_of (by kernel_rfl))] at htm
          rw [show tm[14]?.getD undef = _ from r 14 (rest_of (by kernel_rfl))] at htm
          rw [show tm[15]?.getD undef = _ from r 15 (rest_of (by kernel_rfl))] at htm
          rw [show tm[16]?.getD undef = _ from r 16 (rest_of (by kernel_rfl))] at htm
          rw [show tm[17]?.getD undef = _ from r 17 (rest_of (by kernel_rfl))] at htm
          rw [show tm[18]?.getD undef = _ from r 18 (rest_of (by kernel_rfl))] at htm
          rw [show tm[19]?.getD undef = _ from r 19 (rest_of (by kernel_rfl))] at htm
          rw [show tm[20]?.getD undef = _ from r 20 (rest_of (by kernel_rfl))] at htm
          rw [show tm[21]?.getD undef = _ from r 21 (rest_of (by kernel_rfl))] at htm
          rw [show tm[22]?.getD undef = _ from r 22 (rest_of (by kernel_rfl))] at htm
          rw [show tm[23]?.getD undef = _ from r 23 (rest_of (by kernel_rfl))] at htm
          rw [show tm[24]?.getD undef = _ from r 24 (rest_of (by kernel_rfl))] at htm
          rw [show tm[25]?.getD undef = _ from r 25 (rest_of (by kernel_rfl))] at htm
          rw [show tm[26]?.getD undef = _ from r 26 (rest_of (by kernel_rfl))] at htm
          rw [show tm[27]?.getD undef = _ from r 27 (rest_of (by kernel_rfl))] at htm
          rw [show tm[28]?.getD undef = _ from r 28 (rest_of (by kernel_rfl))] at htm
          rw [show tm[29]?.getD undef = _ from r 29 (rest_of (by kernel_rfl))] at htm
          rw [show tm[30]?.getD undef = _ from r 30 (rest_of (by kernel_rfl))] at htm
          rw [show tm[31]?.getD undef = _ from r 31 (rest_of (by kernel_rfl))] at htm
          rw [show tm[32]?.getD undef = _ from r 32 (rest_of (by kernel_rfl))] at htm
          rw [show tm[33]?.getD undef = _ from r 33 (rest_of (by kernel_rfl))] at htm
          rw [show tm[34]?.getD undef = _ from r 34 (rest_of (by kernel_rfl))] at htm
          rw [show tm[35]?.getD undef = _ from r 35 (rest_of (by kernel_rfl))] at htm
          rw [show tm[36]?.getD undef = _ from r 36 (rest_of (by kernel_rfl))] at htm
          rw [show tm[37]?.getD undef = _ from r 37 (rest_of (by kernel_rfl))] at htm
          rw [show tm[38]?.getD undef = _ from r 38 (rest_of (by kernel_rfl))] at htm
          rw [show tm[64]?.getD undef = _ from r 64 (rest_of (by kernel_rfl))] at htm
          rw [show tm[65]?.getD undef = _ from r 65 (rest_of (by kernel_rfl))] at htm
          rw [show tm[66]?.getD undef = _ from r 66 (rest_of (by kernel_rfl))] at htm
          rw [show tm[67]?.getD undef = _ from r 67 (rest_of (by kernel_rfl))] at htm
          rw [h24] at htm
          generalize tm[39]?.getD undef = u39 at htm
          generalize tm[40]?.getD undef = u40 at htm
          generalize tm[41]?.getD undef = u41 at htm
          generalize tm[42]?.getD undef = u42 at htm
          generalize tm[43]?.getD undef = u43 at htm
          generalize tm[44]?.getD undef = u44 at htm
          generalize tm[45]?.getD undef = u45 at htm
          generalize tm[46]?.getD undef = u46 at htm
          generalize tm[47]?.getD undef = u47 at htm
          generalize tm[48]?.getD undef = u48 at htm
          generalize tm[49]?.getD undef = u49 at htm
          generalize tm[50]?.getD undef = u50 at htm
          generalize tm[51]?.getD undef = u51 at htm
          generalize tm[52]?.getD undef = u52 at htm
          generalize tm[53]?.getD undef = u53 at htm
          generalize tm[54]?.getD undef = u54 at htm
          generalize tm[55]?.getD undef = u55 at htm
          generalize tm[56]?.getD undef = u56 at htm
          generalize tm[57]?.getD undef = u57 at htm
          generalize tm[58]?.getD undef = u58 at htm
          generalize tm[59]?.getD undef = u59 at htm
          generalize tm[60]?.getD undef = u60 at htm
          generalize tm[61]?.getD undef = u61 at htm
          generalize tm[62]?.getD undef = u62 at htm
          subst hdf
          rw [htm]
          clear hE htm hsz r h24
          rw [hFin] at hF
          have KF := hF
          clear hF hFin HPu
          cases lg with
          | true =>
            have HE := hidb (HRn.out hok)
            clear HRn HGo hok
            go_wp2_with fail
            go_ret2
            exact HNo.out _ KF.out.1 HE.out
          | false =>
            have HGo2 := hidb (fun W v' => HGo.out W v' hok)
            clear HRn HGo hok
            go_wp2_with fail
            obtain ⟨v', hD⟩ := KF.out.2 (by trivial)
            obtain ⟨j', L', ⟨s1, s2⟩, v'', g', e1, e2, H⟩ := HGo2.out _ v' hD
            exact ⟨⟨_, _, _, ⟨j', rfl, e2, L', s1, s2, v'', g', H⟩, rfl, rfl, e1⟩, by simp [intOf]; omega⟩
        · have HE := hidb (HRn.out hok)
          clear HRn HGo hok
          obtain ⟨ga, rfl⟩ := hva hd
          go_wp2_with (first
            | (go_at_call 22; first | (refine HT1.out.mono ?_; clear HT1; rintro e w4 ⟨rfl, HT2⟩) | (refine HT2.out.mono ?_; clear HT2; rintro e w5 ⟨rfl, ⟨⟨u1, k1⟩, f1, k0, hsz⟩, ⟨y0, y1, y2, y3⟩, HB, HP⟩))
            | fail)
          obtain ⟨w6, hw6⟩ : ∃ w6, w6 = w5.setCell ⟨w4.heap.size, 1, none⟩ (sv val) := ⟨_, rfl⟩
          rw [← hw6] at y0 y2 y3 HB ⊢
          clear hw6 k1 f1 k0 hsz HP y1
          have y4 := y3 ga rfl hd
          have hix : IntKind.i64.wrap ((j : Int) - 1) = ((j - 1 : Nat) : Int) := by rw [IntKind.wrap_i64]; omega
          have hil2 : ((j - 1 : Nat) : Int) < (j : Int) := by omega
          generalize j - 1 = jm at *
          clear y3 hva
          have c0 : w6.drew.cell? ⟨w4.heap.size, 0, none⟩ = some (sv key) := y0
          have c2 : w6.drew.cell? ⟨w2.heap.size, 0, none⟩ = some (.slice (some ⟨ga, 0, none⟩) j vc) := y2
          have c3 : w6.drew.cell? ⟨ga, jm * 2, none⟩ = some (sv lk) := y4
          have hTab : ∃ T : Nat → Value, T 0 = .int .i64 (j : Int) ∧ T 1 = .bool true ∧ T 2 = .bool true ∧ T 3 = .pointer (some ⟨w4.heap.size, 0, none⟩) ∧ T 4 = sv key ∧ T 5 = .pointer (some ⟨w2.heap.size, 0, none⟩) ∧ T 6 = .pointer (some ⟨w2.heap.size, 0, none⟩) ∧ T 7 = .pointer (some ⟨w2.heap.size, 0, none⟩) ∧ T 8 = .slice (some ⟨ga, 0, none⟩) j vc ∧ T 9 = .int .i64 (j : Int) ∧ T 10 = .int .i64 (jm : Int) ∧ T 11 = .pointer (some ⟨ga, jm * 2, none⟩) ∧ T 12 = .pointer (some ⟨ga, jm * 2, none⟩) ∧ T 13 = sv lk ∧ T 14 = .bool true ∧ T 15 = .bool true ∧ T 16 = .bool true ∧ T 17 = undef ∧ T 18 = undef ∧ T 19 = undef ∧ T 20 = undef ∧ T 21 = undef ∧ T 22 = undef ∧ T 23 = undef ∧ T 24 = .bool true := ⟨fun i => match i with | 0 => .int .i64 (j : Int) | 1 => .bool true | 2 => .bool true | 3 => .pointer (some ⟨w4.heap.size, 0, none⟩) | 4 => sv key | 5 => .pointer (some ⟨w2.heap.size, 0, none⟩) | 6 => .pointer (some ⟨w2.heap.size, 0, none⟩) | 7 => .pointer (some ⟨w2.heap.size, 0, none⟩) | 8 => .slice (some ⟨ga, 0, none⟩) j vc | 9 => .int .i64 (j : Int) | 10 => .int .i64 (jm : Int) | 11 => .pointer (some ⟨ga, jm * 2, none⟩) | 12 => .pointer (some ⟨ga, jm * 2, none⟩) | 13 => sv lk | 14 => .bool true | 15 => .bool true | 16 => .bool true | 17 => undef | 18 => undef | 19 => undef | 20 => undef | 21 => undef | 22 => undef | 23 => undef | 24 => .bool true | _ => undef, rfl, rfl, rfl, rfl, rfl, rfl, rfl, rfl, rfl, rfl, rfl, rfl, rfl, rfl, rfl, rfl, rfl, rfl, rfl, rfl, rfl, rfl, rfl, rfl, rfl⟩
          obtain ⟨T, T0, T1, T2, T3, T4, T5, T6, T7, T8, T9, T10, T11, T12, T13, T14, T15, T16, T17, T18, T19, T20, T21, T22, T23, T24⟩ := hTab
          refine wp_region_eachg (by kernel_rfl) 68 rfl (by kernel_rfl) (fun _ W => W = w6.drew) (fun _ i v _ => v = T i) ?start ?each ?_
          case start => rfl
          case each =>
            intro i o ho listed a W hE hnl haf
            have hi : i < 25 := (Array.getElem?_eq_some_iff.1 ho).1
            have t6 : a.tmps[6]?.getD undef = .pointer (some ⟨w2.heap.size, 0, none⟩) := hE.rest 6 (rest_of (by kernel_rfl))
            have t7 : a.tmps[7]?.getD undef = .int .i64 (j : Int) := hE.rest 7 (rest_of (by kernel_rfl))
            have t8 : a.tmps[8]?.getD undef = .pointer (some ⟨w4.heap.size, 0, none⟩) := hE.rest 8 (rest_of (by kernel_rfl))
            have hG := hE.glob
            have hG2 : (24 : Nat) ≠ 22 → W = w6.drew := fun _ => hG
            match i, hi, ho, hnl, haf, hG2 with
            | 0, _, ho, hnl, haf, hG2 =>
              obtain rfl := Option.some.inj ho
              exact owesP_value (W' := _) rfl rfl (by simp [execOp, go_sem, t7]) T0.symm (hG2 (by decide)) (fun _ _ _ h => h)
            | 1, _, ho, hnl, haf, hG2 =>
              obtain rfl := Option.some.inj ho
              have h0 : a.tmps[39]?.getD undef = .int .i64 (j : Int) := (hE.vals 0 _ 39 rfl (haf ⟨0, .data⟩ (by simp) rfl) rfl).trans T0
              exact owesP_value (W' := _) rfl rfl (by simp [execOp, go_sem, h0]; omega) T1.symm (hG2 (by decide)) (fun _ _ _ h => h)
            | 2, _, ho, hnl, haf, hG2 =>
              obtain rfl := Option.some.inj ho
              have h1 : a.tmps[40]?.getD undef = .bool true := (hE.vals 1 _ 40 rfl (haf ⟨1, .data⟩ (by simp) rfl) rfl).trans T1
              exact owesP_value (W' := _) rfl rfl (by simp [execOp, go_sem, h1]) T2.symm (hG2 (by decide)) (fun _ _ _ h => h)
            | 3, _, ho, hnl, haf, hG2 =>
              obtain rfl := Option.some.inj ho
              have hg : a.tmps[41]?.getD undef = .bool true := (hE.vals 2 _ 41 rfl (haf ⟨2, .guard⟩ (by simp) rfl) rfl).trans T2
              exact owesP_value (W' := _) rfl ((wanted_is rfl rfl hg).trans rfl) (by simp [execOp, go_sem, t8]) T3.symm (hG2 (by decide)) (fun _ _ _ h => h)
            | 4, _, ho, hnl, haf, hG2 =>
              obtain rfl := Option.some.inj ho
              have h3 : a.tmps[42]?.getD undef = .pointer (some ⟨w4.heap.size, 0, none⟩) := (hE.vals 3 _ 42 rfl (haf ⟨3, .data⟩ (by simp) rfl) rfl).trans T3
              have hg : a.tmps[41]?.getD undef = .bool true := (hE.vals 2 _ 41 rfl (haf ⟨2, .guard⟩ (by simp) rfl) rfl).trans T2
              have hW : W = w6.drew := hG
              subst hW
              exact owesP_value (W' := _) rfl ((wanted_is rfl rfl hg).trans rfl) (by simp [execOp, go_sem, h3, c0]) T4.symm (hG2 (by decide)) (fun _ _ _ h => h)
            | 5, _, ho, hnl, haf, hG2 =>
              obtain rfl := Option.some.inj ho
              have hg : a.tmps[41]?.getD undef = .bool true := (hE.vals 2 _ 41 rfl (haf ⟨2, .guard⟩ (by simp) rfl) rfl).trans T2
              exact owesP_value (W' := _) rfl ((wanted_is rfl rfl hg).trans rfl) (by simp [execOp, go_sem, t6]) T5.symm (hG2 (by decide)) (fun _ _ _ h => h)
            | 6, _, ho, hnl, haf, hG2 =>
              obtain rfl := Option.some.inj ho
              have h5 : a.tmps[44]?.getD undef = .pointer (some ⟨w2.heap.size, 0, none⟩) := (hE.vals 5 _ 44 rfl (haf ⟨5, .data⟩ (by simp) rfl) rfl).trans T5
              have hg : a.tmps[41]?.getD undef = .bool true := (hE.vals 2 _ 41 rfl (haf ⟨2, .guard⟩ (by simp) rfl) rfl).trans T2
              exact owesP_value (W' := _) rfl ((wanted_is rfl rfl hg).trans rfl) (by simp [execOp, go_sem, h5]) T6.symm (hG2 (by decide)) (fun _ _ _ h => h)
            | 7, _, ho, hnl, haf, hG2 =>
              obtain rfl := Option.some.inj ho
              have h6 : a.tmps[45]?.getD undef = .pointer (some ⟨w2.heap.size, 0, none⟩) := (hE.vals 6 _ 45 rfl (haf ⟨6, .data⟩ (by simp) rfl) rfl).trans T6
              have hg : a.tmps[41]?.getD undef = .bool true := (hE.vals 2 _ 41 rfl (haf ⟨2, .guard⟩ (by simp) rfl) rfl).trans T2
              exact owesP_value (W' := _) rfl ((wanted_is rfl rfl hg).trans rfl) (by simp [execOp, go_sem, h6]) T7.symm (hG2 (by decide)) (fun _ _ _ h => h)
            | 8, _, ho, hnl, haf, hG2 =>
              obtain rfl := Option.some.inj ho
              have h7 : a.tmps[46]?.getD undef = .pointer (some ⟨w2.heap.size, 0, none⟩) := (hE.vals 7 _ 46 rfl (haf ⟨7, .data⟩ (by simp) rfl) rfl).trans T7
              have hg : a.tmps[41]?.getD undef = .bool true := (hE.vals 2 _ 41 rfl (haf ⟨2, .guard⟩ (by simp) rfl) rfl).trans T2
              have hW : W = w6.drew := hG
              subst hW
              exact owesP_value (W' := _) rfl ((wanted_is rfl rfl hg).trans rfl) (by simp [execOp, go_sem, h7, c2]) T8.symm (hG2 (by decide)) (fun _ _ _ h => h)
            | 9, _, ho, hnl, haf, hG2 =>
              obtain rfl := Option.some.inj ho
              have hg : a.tmps[41]?.getD undef = .bool true := (hE.vals 2 _ 41 rfl (haf ⟨2, .guard⟩ (by simp) rfl) rfl).trans T2
              exact owesP_value (W' := _) rfl ((wanted_is rfl rfl hg).trans rfl) (by simp [execOp, go_sem, t7]) T9.symm (hG2 (by decide)) (fun _ _ _ h => h)
            | 10, _, ho, hnl, haf, hG2 =>
              obtain rfl := Option.some.inj ho
              have h9 : a.tmps[48]?.getD undef = .int .i64 (j : Int) := (hE.vals 9 _ 48 rfl (haf ⟨9, .data⟩ (by simp) rfl) rfl).trans T9
              have hg : a.tmps[41]?.getD undef = .bool true := (hE.vals 2 _ 41 rfl (haf ⟨2, .guard⟩ (by simp) rfl) rfl).trans T2
              exact owesP_value (W' := _) rfl ((wanted_is rfl rfl hg).trans rfl) (by simp [execOp, go_sem, h9, hix]) T10.symm (hG2 (by decide)) (fun _ _ _ h => h)
            | 11, _, ho, hnl, haf, hG2 =>
              obtain rfl := Option.some.inj ho
              have h8 : a.tmps[47]?.getD undef = .slice (some ⟨ga, 0, none⟩) j vc := (hE.vals 8 _ 47 rfl (haf ⟨8, .data⟩ (by simp) rfl) rfl).trans T8
              have h10 : a.tmps[49]?.getD undef = .int .i64 (jm : Int) := (hE.vals 10 _ 49 rfl (haf ⟨10, .data⟩ (by simp) rfl) rfl).trans T10
              have hg : a.tmps[41]?.getD undef = .bool true := (hE.vals 2 _ 41 rfl (haf ⟨2, .guard⟩ (by simp) rfl) rfl).trans T2
              exact owesP_value (W' := _) rfl ((wanted_is rfl rfl hg).trans rfl) (by simp [execOp, go_sem, h8, h10, hil2]) T11.symm (hG2 (by decide)) (fun _ _ _ h => h)
            | 12, _, ho, hnl, haf, hG2 =>
              obtain rfl := Option.some.inj ho
              have h11 : a.tmps[50]?.getD undef = .pointer (some ⟨ga, jm * 2, none⟩) := (hE.vals 11 _ 50 rfl (haf ⟨11, .data⟩ (by simp) rfl) rfl).trans T11
              have hg : a.tmps[41]?.getD undef = .bool true := (hE.vals 2 _ 41 rfl (haf ⟨2, .guard⟩ (by simp) rfl) rfl).trans T2
              exact owesP_value (W' := _) rfl ((wanted_is rfl rfl hg).trans rfl) (by simp [execOp, go_sem, h11]) T12.symm (hG2 (by decide)) (fun _ _ _ h => h)
            | 13, _, ho, hnl, haf, hG2 =>
              obtain rfl := Option.some.inj ho
              have h12 : a.tmps[51]?.getD undef = .pointer (some ⟨ga, jm * 2, none⟩) := (hE.vals 12 _ 51 rfl (haf ⟨12, .data⟩ (by simp) rfl) rfl).trans T12
              have hg : a.tmps[41]?.getD undef = .bool true := (hE.vals 2 _ 41 rfl (haf ⟨2, .guard⟩ (by simp) rfl) rfl).trans T2
              have hW : W = w6.drew := hG
              subst hW
              exact owesP_value (W' := _) rfl ((wanted_is rfl rfl hg).trans rfl) (by simp [execOp, go_sem, h12, c3]) T13.symm (hG2 (by decide)) (fun _ _ _ h => h)
            | 14, _, ho, hnl, haf, hG2 =>
              obtain rfl := Option.some.inj ho
              have h4 : a.tmps[43]?.getD undef = sv key := (hE.vals 4 _ 43 rfl (haf ⟨4, .data⟩ (by simp) rfl) rfl).trans T4
              have h13 : a.tmps[52]?.getD undef = sv lk := (hE.vals 13 _ 52 rfl (haf ⟨13, .data⟩ (by simp) rfl) rfl).trans T13
              have hg : a.tmps[41]?.getD undef = .bool true := (hE.vals 2 _ 41 rfl (haf ⟨2, .guard⟩ (by simp) rfl) rfl).trans T2
              exact owesP_value (W' := _) rfl ((wanted_is rfl rfl hg).trans rfl) (by simp [execOp, go_sem, h4, h13, hb1]) T14.symm (hG2 (by decide)) (fun _ _ _ h => h)
            | 15, _, ho, hnl, haf, hG2 =>
              obtain rfl := Option.some.inj ho
              have h2 : a.tmps[41]?.getD undef = .bool true := (hE.vals 2 _ 41 rfl (haf ⟨2, .data⟩ (by simp) rfl) rfl).trans T2
              have h14 : a.tmps[53]?.getD undef = .bool true := (hE.vals 14 _ 53 rfl (haf ⟨14, .data⟩ (by simp) rfl) rfl).trans T14
              exact owesP_value (W' := _) rfl rfl (by simp [execOp, go_sem, h2, h14]) T15.symm (hG2 (by decide)) (fun _ _ _ h => h)
            | 16, _, ho, hnl, haf, hG2 =>
              obtain rfl := Option.some.inj ho
              have h15 : a.tmps[54]?.getD undef = .bool true := (hE.vals 15 _ 54 rfl (haf ⟨15, .data⟩ (by simp) rfl) rfl).trans T15
              exact owesP_value (W' := _) rfl rfl (by simp [execOp, go_sem, h15]) T16.symm (hG2 (by decide)) (fun _ _ _ h => h)
            | 17, _, ho, hnl, haf, hG2 =>
              obtain rfl := Option.some.inj ho
              have hg : a.tmps[55]?.getD undef = .bool true := (hE.vals 16 _ 55 rfl (haf ⟨16, .guard⟩ (by simp) rfl) rfl).trans T16
              exact owesP_none rfl ((wanted_is rfl rfl hg).trans rfl) T17.symm (hG2 (by decide)) (fun _ _ _ h => h)
            | 18, _, ho, hnl, haf, hG2 =>
              obtain rfl := Option.some.inj ho
              have hg : a.tmps[55]?.getD undef = .bool true := (hE.vals 16 _ 55 rfl (haf ⟨16, .guard⟩ (by simp) rfl) rfl).trans T16
              exact owesP_none rfl ((wanted_is rfl rfl hg).trans rfl) T18.symm (hG2 (by decide)) (fun _ _ _ h => h)
            | 19, _, ho, hnl, haf, hG2 =>
              obtain rfl := Option.some.inj ho
              have h18 : a.tmps[57]?.getD undef = undef := (hE.vals 18 _ 57 rfl (haf ⟨18, .data⟩ (by simp) rfl) rfl).trans T18
              have hg : a.tmps[55]?.getD undef = .bool true := (hE.vals 16 _ 55 rfl (haf ⟨16, .guard⟩ (by simp) rfl) rfl).trans T16
              exact owesP_none rfl ((wanted_is rfl rfl hg).trans rfl) T19.symm (hG2 (by decide)) (fun _ _ _ h => h)
            | 20, _, ho, hnl, haf, hG2 =>
              obtain rfl := Option.some.inj ho
              have hg : a.tmps[55]?.getD undef = .bool true := (hE.vals 16 _ 55 rfl (haf ⟨16, .guard⟩ (by simp) rfl) rfl).trans T16
              exact owesP_none rfl ((wanted_is rfl rfl hg).trans rfl) T20.symm (hG2 (by decide)) (fun _ _ _ h => h)
            | 21, _, ho, hnl, haf, hG2 =>
              obtain rfl := Option.some.inj ho
              have h20 : a.tmps[59]?.getD undef = undef := (hE.vals 20 _ 59 rfl (haf ⟨20, .data⟩ (by simp) rfl) rfl).trans T20
              have hg : a.tmps[55]?.getD undef = .bool true := (hE.vals 16 _ 55 rfl (haf ⟨16, .guard⟩ (by simp) rfl) rfl).trans T16
              exact owesP_none rfl ((wanted_is rfl rfl hg).trans rfl) T21.symm (hG2 (by decide)) (fun _ _ _ h => h)
            | 22, _, ho, hnl, haf, hG2 =>
              obtain rfl := Option.some.inj ho
              have h17 : a.tmps[56]?.getD undef = undef := (hE.vals 17 _ 56 rfl (haf ⟨17, .data⟩ (by simp) rfl) rfl).trans T17
              have h19 : a.tmps[58]?.getD undef = undef := (hE.vals 19 _ 58 rfl (haf ⟨19, .data⟩ (by simp) rfl) rfl).trans T19
              have h21 : a.tmps[60]?.getD undef = undef := (hE.vals 21 _ 60 rfl (haf ⟨21, .data⟩ (by simp) rfl) rfl).trans T21
              have hg : a.tmps[55]?.getD undef = .bool true := (hE.vals 16 _ 55 rfl (haf ⟨16, .guard⟩ (by simp) rfl) rfl).trans T16
              exact owesP_none rfl ((wanted_is rfl rfl hg).trans rfl) T22.symm (hG2 (by decide)) (fun _ _ _ h => h)
            | 23, _, ho, hnl, haf, hG2 =>
              obtain rfl := Option.some.inj ho
              have h22 : a.tmps[61]?.getD undef = undef := (hE.vals 22 _ 61 rfl (haf ⟨22, .data⟩ (by simp) rfl) rfl).trans T22
              have hg : a.tmps[55]?.getD undef = .bool true := (hE.vals 16 _ 55 rfl (haf ⟨16, .guard⟩ (by simp) rfl) rfl).trans T16
              exact owesP_none rfl ((wanted_is rfl rfl hg).trans rfl) T23.symm (hG2 (by decide)) (fun _ _ _ h => h)
            | 24, _, ho, hnl, haf, hG2 =>
              obtain rfl := Option.some.inj ho
              have h16 : a.tmps[55]?.getD undef = .bool true := (hE.vals 16 _ 55 rfl (haf ⟨16, .data⟩ (by simp) rfl) rfl).trans T16
              have h23 : a.tmps[62]?.getD undef = undef := (hE.vals 23 _ 62 rfl (haf ⟨23, .data⟩ (by simp) rfl) rfl).trans T23
              exact owesP_value (W' := _) rfl rfl (by simp [execOp, go_sem, h16]) T24.symm (hG2 (by decide)) (fun _ _ _ h => h)
          intro a W hE
          have h24 : a.tmps[63]?.getD undef = .bool true := (hE.vals 24 _ 63 rfl (by rfl) rfl).trans T24
          have hF : W = w6.drew := hE.glob
          have hsz := hE.tsize
          have hdf := hE.defers
          have r := fun t h => hE.rest t h
          obtain ⟨tm, df⟩ := a
          simp only at hsz hdf r h24
          have htm := arr_out 68 tm (by rw [hsz]; rfl) undef
          simp only [List.range, List.range.loop, List.map_cons, List.map_nil] at htm
          rw [show tm[0]?.getD undef = _ from r 0 (rest_of (by kernel_rfl))] at htm
          rw [show tm[1]?.getD undef = _ from r 1 (rest_of (by kernel_rfl))] at htm
          rw [show tm[2]?.getD undef = _ from r 2 (rest_of (by kernel_rfl))] at htm
          rw [show tm[3]?.getD undef = _ from r 3 (rest_of (by kernel_rfl))] at htm
          rw [show tm[4]?.getD undef = _ from r 4 (rest_of (by kernel_rfl))] at htm
          rw [show tm[5]?.getD undef = _ from r 5 (rest_of (by kernel_rfl))] at htm
          rw [show tm[6]?.getD undef = _ from r 6 (rest_of (by kernel_rfl))] at htm
          rw [show tm[7]?.getD undef = _ from r 7 (rest_of (by kernel_rfl))] at htm
          rw [show tm[8]?.getD undef = _ from r 8 (rest_of (by kernel_rfl))] at htm
          rw [show tm[9]?.getD undef = _ from r 9 (rest_of (by kernel_rfl))] at htm
          rw [show tm[10]?.getD undef = _ from r 10 (rest_of (by kernel_rfl))] at htm
          rw [show tm[11]?.getD undef = _ from r 11 (rest_of (by kernel_rfl))] at htm
          rw [show tm[12]?.getD undef = _ from r 12 (rest_of (by kernel_rfl))] at htm
          rw [show tm[13]?.getD undef = _ from r 13 (rest_of (by kernel_rfl))] at htm
          rw [show tm[14]?.getD undef = _ from r 14 (rest_of (by kernel_rfl))] at htm
          rw [show tm[15]?.getD undef = _ from r 15 (rest_of (by kernel_rfl))] at htm
          rw [show tm[16]?.getD undef = _ from r 16 (rest_of (by kernel_rfl))] at htm
          rw [show tm[17]?.getD undef = _ from r 17 (rest_of (by kernel_rfl))] at htm
          rw [show tm[18]?.getD undef = _ from r 18 (rest_of (by kernel_rfl))] at htm
          rw [show tm[19]?.getD undef = _ from r 19 (rest_of (by kernel_rfl))] at htm
          rw [show tm[20]?.getD undef = _ from r 20 (rest_of (by kernel_rfl))] at htm
          rw [show tm[21]?.getD undef = _ from r 21 (rest_of (by kernel_rfl))] at htm
          rw [show tm[22]?.getD undef = _ from r 22 (rest_of (by kernel_rfl))] at htm
          rw [show tm[23]?.getD undef = _ from r 23 (rest_of (by kernel_rfl))] at htm
          rw [show tm[24]?.getD undef = _ from r 24 (rest_of (by kernel_rfl))] at htm
          rw [show tm[25]?.getD undef = _ from r 25 (rest_of (by kernel_rfl))] at htm
          rw [show tm[26]?.getD undef = _ from r 26 (rest_of (by kernel_rfl))] at htm
          rw [show tm[27]?.getD undef = _ from r 27 (rest_of (by kernel_rfl))] at htm
          rw [show tm[28]?.getD undef = _ from r 28 (rest_of (by kernel_rfl))] at htm
          rw [show tm[29]?.getD undef = _ from r 29 (rest_of (by kernel_rfl))] at htm
          rw [show tm[30]?.getD undef = _ from r 30 (rest_of (by kernel_rfl))] at htm
          rw [show tm[31]?.getD undef = _ from r 31 (rest_of (by kernel_rfl))] at htm
          rw [show tm[32]?.getD undef = _ from r 32 (rest_of (by kernel_rfl))] at htm
          rw [show tm[33]?.getD undef = _ from r 33 (rest_of (by kernel_rfl))] at htm
          rw [show tm[34]?.getD undef = _ from r 34 (rest_of (by kernel_rfl))] at htm
          rw [show tm[35]?.getD undef = _ from r 35 (rest_of (by kernel_rfl))] at htm
          rw [show tm[36]?.getD undef = _ from r 36 (rest_of (by kernel_rfl))] at htm
          rw [show tm[37]?.getD undef = _ from r 37 (rest_of (by kernel_rfl))] at htm
          rw [show tm[38]?.getD undef = _ from r 38 (rest_of (by kernel_rfl))] at htm
          rw [show tm[64]?.getD undef = _ from r 64 (rest_of (by kernel_rfl))] at htm
          rw [show tm[65]?.getD undef = _ from r 65 (rest_of (by kernel_rfl))] at htm
          rw [show tm[66]?.getD undef = _ from r 66 (rest_of (by kernel_rfl))] at htm
          rw [show tm[67]?.getD undef = _ from r 67 (rest_of (by kernel_rfl))] at htm
          rw [h24] at htm
          generalize tm[39]?.getD undef = u39 at htm
          generalize tm[40]?.getD undef = u40 at htm
          generalize tm[41]?.getD undef = u41 at htm
          generalize tm[42]?.getD undef = u42 at htm
          generalize tm[43]?.getD undef = u43 at htm
          generalize tm[44]?.getD undef = u44 at htm
          generalize tm[45]?.getD undef = u45 at htm
          generalize tm[46]?.getD undef = u46 at htm
          generalize tm[47]?.getD undef = u47 at htm
          generalize tm[48]?.getD undef = u48 at htm
          generalize tm[49]?.getD undef = u49 at htm
          generalize tm[50]?.getD undef = u50 at htm
          generalize tm[51]?.getD undef = u51 at htm
          generalize tm[52]?.getD undef = u52 at htm
          generalize tm[53]?.getD undef = u53 at htm
          generalize tm[54]?.getD undef = u54 at htm
          generalize tm[55]?.getD undef = u55 at htm
          generalize tm[56]?.getD undef = u56 at htm
          generalize tm[57]?.getD undef = u57 at htm
          generalize tm[58]?.getD undef = u58 at htm
          generalize tm[59]?.getD undef = u59 at htm
          generalize tm[60]?.getD undef = u60 at htm
          generalize tm[61]?.getD undef = u61 at htm
          generalize tm[62]?.getD undef = u62 at htm
          subst hdf
          rw [htm]
          clear hE htm hsz r h24
          subst hF
          go_wp2_with fail
          go_ret2
          exact HNo.out _ HB.out.drew HE.out
        · have HE := hidb (HRn.out hok)
          clear HRn HGo hok
          obtain ⟨ga, rfl⟩ := hva hd
          go_wp2_with (first
            | (go_at_call 22; first | (refine HT1.out.mono ?_; clear HT1; rintro e w4 ⟨rfl, HT2⟩) | (refine HT2.out.mono ?_; clear HT2; rintro e w5 ⟨rfl, ⟨⟨u1, k1⟩, f1, k0, hsz⟩, ⟨y0, y1, y2, y3⟩, HB, HP⟩))
            | fail)
          obtain ⟨w6, hw6⟩ : ∃ w6, w6 = w5.setCell ⟨w4.heap.size, 1, none⟩ (sv val) := ⟨_, rfl⟩
          rw [← hw6] at y0 y2 y3 HB ⊢
          clear hw6 k1 f1 k0 hsz HP y1
          have y4 := y3 ga rfl hd
          have hix : IntKind.i64.wrap ((j : Int) - 1) = ((j - 1 : Nat) : Int) := by rw [IntKind.wrap_i64]; omega
          have hil2 : ((j - 1 : Nat) : Int) < (j : Int) := by omega
          generalize j - 1 = jm at *
          clear y3 hva
          have c0 : w6.drew.cell? ⟨w4.heap.size, 0, none⟩ = some (sv key) := y0
          have c2 : w6.drew.cell? ⟨w2.heap.size, 0, none⟩ = some (.slice (some ⟨ga, 0, none⟩) j vc) := y2
          have c3 : w6.drew.cell? ⟨ga, jm * 2, none⟩ = some (sv lk) := y4
          have hTab : ∃ T : Nat → Value, T 0 = .int .i64 (j : Int) ∧ T 1 = .bool true ∧ T 2 = .bool true ∧ T 3 = .pointer (some ⟨w4.heap.size, 0, none⟩) ∧ T 4 = sv key ∧ T 5 = .pointer (some ⟨w2.heap.size, 0, none⟩) ∧ T 6 = .pointer (some ⟨w2.heap.size, 0, none⟩) ∧ T 7 = .pointer (some ⟨w2.heap.size, 0, none⟩) ∧ T 8 = .slice (some ⟨ga, 0, none⟩) j vc ∧ T 9 = .int .i64 (j : Int) ∧ T 10 = .int .i64 (jm : Int) ∧ T 11 = .pointer (some ⟨ga, jm * 2, none⟩) ∧ T 12 = .pointer (some ⟨ga, jm * 2, none⟩) ∧ T 13 = sv lk ∧ T 14 = .bool true ∧ T 15 = .bool true ∧ T 16 = .bool true ∧ T 17 = undef ∧ T 18 = undef ∧ T 19 = undef ∧ T 20 = undef ∧ T 21 = undef ∧ T 22 = undef ∧ T 23 = undef ∧ T 24 = .bool true := ⟨fun i => match i with | 0 => .int .i64 (j : Int) | 1 => .bool true | 2 => .bool true | 3 => .pointer (some ⟨w4.heap.size, 0, none⟩) | 4 => sv key | 5 => .pointer (some ⟨w2.heap.size, 0, none⟩) | 6 => .pointer (some ⟨w2.heap.size, 0, none⟩) | 7 => .pointer (some ⟨w2.heap.size, 0, none⟩) | 8 => .slice (some ⟨ga, 0, none⟩) j vc | 9 => .int .i64 (j : Int) | 10 => .int .i64 (jm : Int) | 11 => .pointer (some ⟨ga, jm * 2, none⟩) | 12 => .pointer (some ⟨ga, jm * 2, none⟩) | 13 => sv lk | 14 => .bool true | 15 => .bool true | 16 => .bool true | 17 => undef | 18 => undef | 19 => undef | 20 => undef | 21 => undef | 22 => undef | 23 => undef | 24 => .bool true | _ => undef, rfl, rfl, rfl, rfl, rfl, rfl, rfl, rfl, rfl, rfl, rfl, rfl, rfl, rfl, rfl, rfl, rfl, rfl, rfl, rfl, rfl, rfl, rfl, rfl, rfl⟩
          obtain ⟨T, T0, T1, T2, T3, T4, T5, T6, T7, T8, T9, T10, T11, T12, T13, T14, T15, T16, T17, T18, T19, T20, T21, T22, T23, T24⟩ := hTab
          refine wp_region_eachg (by kernel_rfl) 68 rfl (by kernel_rfl) (fun _ W => W = w6.drew) (fun _ i v _ => v = T i) ?start ?each ?_
          case start => rfl
          case each =>
            intro i o ho listed a W hE hnl haf
            have hi : i < 25 := (Array.getElem?_eq_some_iff.1 ho).1
            have t6 : a.tmps[6]?.getD undef = .pointer (some ⟨w2.heap.size, 0, none⟩) := hE.rest 6 (rest_of (by kernel_rfl))
            have t7 : a.tmps[7]?.getD undef = .int .i64 (j : Int) := hE.rest 7 (rest_of (by kernel_rfl))
            have t8 : a.tmps[8]?.getD undef = .pointer (some ⟨w4.heap.size, 0, none⟩) := hE.rest 8 (rest_of (by kernel_rfl))
            have hG := hE.glob
            have hG2 : (24 : Nat) ≠ 22 → W = w6.drew := fun _ => hG
            match i, hi, ho, hnl, haf, hG2 with
            | 0, _, ho, hnl, haf, hG2 =>
              obtain rfl := Option.some.inj ho
              exact owesP_value (W' := _) rfl rfl (by simp [execOp, go_sem, t7]) T0.symm (hG2 (by decide)) (fun _ _ _ h => h)
            | 1, _, ho, hnl, haf, hG2 =>
              obtain rfl := Option.some.inj ho
              have h0 : a.tmps[39]?.getD undef = .int .i64 (j : Int) := (hE.vals 0 _ 39 rfl (haf ⟨0, .data⟩ (by simp) rfl) rfl).trans T0
              exact owesP_value (W' := _) rfl rfl (by simp [execOp, go_sem, h0]; omega) T1.symm (hG2 (by decide)) (fun _ _ _ h => h)
            | 2, _, ho, hnl, haf, hG2 =>
              obtain rfl := Option.some.inj ho
              have h1 : a.tmps[40]?.getD undef = .bool true := (hE.vals 1 _ 40 rfl (haf ⟨1, .data⟩ (by simp) rfl) rfl).trans T1
              exact owesP_value (W' := _) rfl rfl (by simp [execOp, go_sem, h1]) T2.symm (hG2 (by decide)) (fun _ _ _ h => h)
            | 3, _, ho, hnl, haf, hG2 =>
              obtain rfl := Option.some.inj ho
              have hg : a.tmps[41]?.getD undef = .bool true := (hE.vals 2 _ 41 rfl (haf ⟨2, .guard⟩ (by simp) rfl) rfl).trans T2
              exact owesP_value (W' := _) rfl ((wanted_is rfl rfl hg).trans rfl) (by simp [execOp, go_sem, t8]) T3.symm (hG2 (by decide)) (fun _ _ _ h => h)
            | 4, _, ho, hnl, haf, hG2 =>
              obtain rfl := Option.some.inj ho
              have h3 : a.tmps[42]?.getD undef = .pointer (some ⟨w4.heap.size, 0, none⟩) := (hE.vals 3 _ 42 rfl (haf ⟨3, .data⟩ (by simp) rfl) rfl).trans T3
              have hg : a.tmps[41]?.getD undef = .bool true := (hE.vals 2 _ 41 rfl (haf ⟨2, .guard⟩ (by simp) rfl) rfl).trans T2
              have hW : W = w6.drew := hG
              subst hW
              exact owesP_value (W' := _) rfl ((wanted_is rfl rfl hg).trans rfl) (by simp [execOp, go_sem, h3, c0]) T4.symm (hG2 (by decide)) (fun _ _ _ h => h)
            | 5, _, ho, hnl, haf, hG2 =>
              obtain rfl := Option.some.inj ho
              have hg : a.tmps[41]?.getD undef = .bool true := (hE.vals 2 _ 41 rfl (haf ⟨2, .guard⟩ (by simp) rfl) rfl).trans T2
              exact owesP_value (W' := _) rfl ((wanted_is rfl rfl hg).trans rfl) (by simp [execOp, go_sem, t6]) T5.symm (hG2 (by decide)) (fun _ _ _ h => h)
            | 6, _, ho, hnl, haf, hG2 =>
              obtain rfl := Option.some.inj ho
              have h5 : a.tmps[44]?.getD undef = .pointer (some ⟨w2.heap.size, 0, none⟩) := (hE.vals 5 _ 44 rfl (haf ⟨5, .data⟩ (by simp) rfl) rfl).trans T5
              have hg : a.tmps[41]?.getD undef = .bool true := (hE.vals 2 _ 41 rfl (haf ⟨2, .guard⟩ (by simp) rfl) rfl).trans T2
              exact owesP_value (W' := _) rfl ((wanted_is rfl rfl hg).trans rfl) (by simp [execOp, go_sem, h5]) T6.symm (hG2 (by decide)) (fun _ _ _ h => h)
            | 7, _, ho, hnl, haf, hG2 =>
              obtain rfl := Option.some.inj ho
              have h6 : a.tmps[45]?.getD undef = .pointer (some ⟨w2.heap.size, 0, none⟩) := (hE.vals 6 _ 45 rfl (haf ⟨6, .data⟩ (by simp) rfl) rfl).trans T6
              have hg : a.tmps[41]?.getD undef = .bool true := (hE.vals 2 _ 41 rfl (haf ⟨2, .guard⟩ (by simp) rfl) rfl).trans T2
              exact owesP_value (W' := _) rfl ((wanted_is rfl rfl hg).trans rfl) (by simp [execOp, go_sem, h6]) T7.symm (hG2 (by decide)) (fun _ _ _ h => h)
            | 8, _, ho, hnl, haf, hG2 =>
              obtain rfl := Option.some.inj ho
              have h7 : a.tmps[46]?.getD undef = .pointer (some ⟨w2.heap.size, 0, none⟩) := (hE.vals 7 _ 46 rfl (haf ⟨7, .data⟩ (by simp) rfl) rfl).trans T7
              have hg : a.tmps[41]?.getD undef = .bool true := (hE.vals 2 _ 41 rfl (haf ⟨2, .guard⟩ (by simp) rfl) rfl).trans T2
              have hW : W = w6.drew := hG
              subst hW
              exact owesP_value (W' := _) rfl ((wanted_is rfl rfl hg).trans rfl) (by simp [execOp, go_sem, h7, c2]) T8.symm (hG2 (by decide)) (fun _ _ _ h => h)
            | 9, _, ho, hnl, haf, hG2 =>
              obtain rfl := Option.some.inj ho
              have hg : a.tmps[41]?.getD undef = .bool true := (hE.vals 2 _ 41 rfl (haf ⟨2, .guard⟩ (by simp) rfl) rfl).trans T2
              exact owesP_value (W' := _) rfl ((wanted_is rfl rfl hg).trans rfl) (by simp [execOp, go_sem, t7]) T9.symm (hG2 (by decide)) (fun _ _ _ h => h)
            | 10, _, ho, hnl, haf, hG2 =>
              obtain rfl := Option.some.inj ho
              have h9 : a.tmps[48]?.getD undef = .int .i64 (j : Int) := (hE.vals 9 _ 48 rfl (haf ⟨9, .data⟩ (by simp) rfl) rfl).trans T9
              have hg : a.tmps[41]?.getD undef = .bool true := (hE.vals 2 _ 41 rfl (haf ⟨2, .guard⟩ (by simp) rfl) rfl).trans T2
              exact owesP_value (W' := _) rfl ((wanted_is rfl rfl hg).trans rfl) (by simp [execOp, go_sem, h9, hix]) T10.symm (hG2 (by decide)) (fun _ _ _ h => h)
            | 11, _, ho, hnl, haf, hG2 =>
              obtain rfl := Option.some.inj ho
              have h8 : a.tmps[47]?.getD undef = .slice (some ⟨ga, 0, none⟩) j vc := (hE.vals 8 _ 47 rfl (haf ⟨8, .data⟩ (by simp) rfl) rfl).trans T8
              have h10 : a.tmps[49]?.getD undef = .int .i64 (jm : Int) := (hE.vals 10 _ 49 rfl (haf ⟨10, .data⟩ (by simp) rfl) rfl).trans T10
              have hg : a.tmps[41]?.getD undef = .bool true := (hE.vals 2 _ 41 rfl (haf ⟨2, .guard⟩ (by simp) rfl) rfl).trans T2
              exact owesP_value (W' := _) rfl ((wanted_is rfl rfl hg).trans rfl) (by simp [execOp, go_sem, h8, h10, hil2]) T11.symm (hG2 (by decide)) (fun _ _ _ h => h)
            | 12, _, ho, hnl, haf, hG2 =>
              obtain rfl := Option.some.inj ho
              have h11 : a.tmps[50]?.getD undef = .pointer (some ⟨ga, jm * 2, none⟩) := (hE.vals 11 _ 50 rfl (haf ⟨11, .data⟩ (by simp) rfl) rfl).trans T11
              have hg : a.tmps[41]?.getD undef = .bool true := (hE.vals 2 _ 41 rfl (haf ⟨2, .guard⟩ (by simp) rfl) rfl).trans T2
              exact owesP_value (W' := _) rfl ((wanted_is rfl rfl hg).trans rfl) (by simp [execOp, go_sem, h11]) T12.symm (hG2 (by decide)) (fun _ _ _ h => h)
            | 13, _, ho, hnl, haf, hG2 =>
              obtain rfl := Option.some.inj ho
              have h12 : a.tmps[51]?.getD undef = .pointer (some ⟨ga, jm * 2, none⟩) := (hE.vals 12 _ 51 rfl (haf ⟨12, .data⟩ (by simp) rfl) rfl).trans T12
              have hg : a.tmps[41]?.getD undef = .bool true := (hE.vals 2 _ 41 rfl (haf ⟨2, .guard⟩ (by simp) rfl) rfl).trans T2
              have hW : W = w6.drew := hG
              subst hW
              exact owesP_value (W' := _) rfl ((wanted_is rfl rfl hg).trans rfl) (by simp [execOp, go_sem, h12, c3]) T13.symm (hG2 (by decide)) (fun _ _ _ h => h)
            | 14, _, ho, hnl, haf, hG2 =>
              obtain rfl := Option.some.inj ho
              have h4 : a.tmps[43]?.getD undef = sv key := (hE.vals 4 _ 43 rfl (haf ⟨4, .data⟩ (by simp) rfl) rfl).trans T4
              have h13 : a.tmps[52]?.getD undef = sv lk := (hE.vals 13 _ 52 rfl (haf ⟨13, .data⟩ (by simp) rfl) rfl).trans T13
              have hg : a.tmps[41]?.getD undef = .bool true := (hE.vals 2 _ 41 rfl (haf ⟨2, .guard⟩ (by simp) rfl) rfl).trans T2
              exact owesP_value (W' := _) rfl ((wanted_is rfl rfl hg).trans rfl) (by simp [execOp, go_sem, h4, h13, hb1, hb2]) T14.symm (hG2 (by decide)) (fun _ _ _ h => h)
            | 15, _, ho, hnl, haf, hG2 =>
              obtain rfl := Option.some.inj ho
              have h2 : a.tmps[41]?.getD undef = .bool true := (hE.vals 2 _ 41 rfl (haf ⟨2, .data⟩ (by simp) rfl) rfl).trans T2
              have h14 : a.tmps[53]?.getD undef = .bool true := (hE.vals 14 _ 53 rfl (haf ⟨14, .data⟩ (by simp) rfl) rfl).trans T14
              exact owesP_value (W' := _) rfl rfl (by simp [execOp, go_sem, h2, h14]) T15.symm (hG2 (by decide)) (fun _ _ _ h => h)
            | 16, _, ho, hnl, haf, hG2 =>
              obtain rfl := Option.some.inj ho
              have h15 : a.tmps[54]?.getD undef = .bool true := (hE.vals 15 _ 54 rfl (haf ⟨15, .data⟩ (by simp) rfl) rfl).trans T15
              exact owesP_value (W' := _) rfl rfl (by simp [execOp, go_sem, h15]) T16.symm (hG2 (by decide)) (fun _ _ _ h => h)
            | 17, _, ho, hnl, haf, hG2 =>
              obtain rfl := Option.some.inj ho
              have hg : a.tmps[55]?.getD undef = .bool true := (hE.vals 16 _ 55 rfl (haf ⟨16, .guard⟩ (by simp) rfl) rfl).trans T16
              exact owesP_none rfl ((wanted_is rfl rfl hg).trans rfl) T17.symm (hG2 (by decide)) (fun _ _ _ h => h)
            | 18, _, ho, hnl, haf, hG2 =>
              obtain rfl := Option.some.inj ho
              have hg : a.tmps[55]?.getD undef = .bool true := (hE.vals 16 _ 55 rfl (haf ⟨16, .guard⟩ (by simp) rfl) rfl).trans T16
              exact owesP_none rfl ((wanted_is rfl rfl hg).trans rfl) T18.symm (hG2 (by decide)) (fun _ _ _ h => h)
            | 19, _, ho, hnl, haf, hG2 =>
              obtain rfl := Option.some.inj ho
              have h18 : a.tmps[57]?.getD undef = undef := (hE.vals 18 _ 57 rfl (haf ⟨18, .data⟩ (by simp) rfl) rfl).trans T18
              have hg : a.tmps[55]?.getD undef = .bool true := (hE.vals 16 _ 55 rfl (haf ⟨16, .guard⟩ (by simp) rfl) rfl).trans T16
              exact owesP_none rfl ((wanted_is rfl rfl hg).trans rfl) T19.symm (hG2 (by decide)) (fun _ _ _ h => h)
            | 20, _, ho, hnl, haf, hG2 =>
              obtain rfl := Option.some.inj ho
              have hg : a.tmps[55]?.getD undef = .bool true := (hE.vals 16 _ 55 rfl (haf ⟨16, .guard⟩ (by simp) rfl) rfl).trans T16
              exact owesP_none rfl ((wanted_is rfl rfl hg).trans rfl) T20.symm (hG2 (by decide)) (fun _ _ _ h => h)
            | 21, _, ho, hnl, haf, hG2 =>
              obtain rfl := Option.some.inj ho
              have h20 : a.tmps[59]?.getD undef = undef := (hE.vals 20 _ 59 rfl (haf ⟨20, .data⟩ (by simp) rfl) rfl).trans T20
              have hg : a.tmps[55]?.getD undef = .bool true := (hE.vals 16 _ 55 rfl (haf ⟨16, .guard⟩ (by simp) rfl) rfl).trans T16
              exact owesP_none rfl ((wanted_is rfl rfl hg).trans rfl) T21.symm (hG2 (by decide)) (fun _ _ _ h => h)
            | 22, _, ho, hnl, haf, hG2 =>
              obtain rfl := Option.some.inj ho
              have h17 : a.tmps[56]?.getD undef = undef := (hE.vals 17 _ 56 rfl (haf ⟨17, .data⟩ (by simp) rfl) rfl).trans T17
              have h19 : a.tmps[58]?.getD undef = undef := (hE.vals 19 _ 58 rfl (haf ⟨19, .data⟩ (by simp) rfl) rfl).trans T19
              have h21 : a.tmps[60]?.getD undef = undef := (hE.vals 21 _ 60 rfl (haf ⟨21, .data⟩ (by simp) rfl) rfl).trans T21
              have hg : a.tmps[55]?.getD undef = .bool true := (hE.vals 16 _ 55 rfl (haf ⟨16, .guard⟩ (by simp) rfl) rfl).trans T16
              exact owesP_none rfl ((wanted_is rfl rfl hg).trans rfl) T22.symm (hG2 (by decide)) (fun _ _ _ h => h)
            | 23, _, ho, hnl, haf, hG2 =>
              obtain rfl := Option.some.inj ho
              have h22 : a.tmps[61]?.getD undef = undef := (hE.vals 22 _ 61 rfl (haf ⟨22, .data⟩ (by simp) rfl) rfl).trans T22
              have hg : a.tmps[55]?.getD undef = .bool true := (hE.vals 16 _ 55 rfl (haf ⟨16, .guard⟩ (by simp) rfl) rfl).trans T16
              exact owesP_none rfl ((wanted_is rfl rfl hg).trans rfl) T23.symm (hG2 (by decide)) (fun _ _ _ h => h)
            | 24, _, ho, hnl, haf, hG2 =>
              obtain rfl := Option.some.inj ho
              have h16 : a.tmps[55]?.getD undef = .bool true := (hE.vals 16 _ 55 rfl (haf ⟨16, .data⟩ (by simp) rfl) rfl).trans T16
              have h23 : a.tmps[62]?.getD undef = undef := (hE.vals 23 _ 62 rfl (haf ⟨23, .data⟩ (by simp) rfl) rfl).trans T23
              exact owesP_value (W' := _) rfl rfl (by simp [execOp, go_sem, h16]) T24.symm (hG2 (by decide)) (fun _ _ _ h => h)
          intro a W hE
          have h24 : a.tmps[63]?.getD undef = .bool true := (hE.vals 24 _ 63 rfl (by rfl) rfl).trans T24
          have hF : W = w6.drew := hE.glob
          have hsz := hE.tsize
          have hdf := hE.defers
          have r := fun t h => hE.rest t h
          obtain ⟨tm, df⟩ := a
          simp only at hsz hdf r h24
          have htm := arr_out 68 tm (by rw [hsz]; rfl) undef
          simp only [List.range, List.range.loop, List.map_cons, List.map_nil] at htm
          rw [show tm[0]?.getD undef = _ from r 0 (rest_of (by kernel_rfl))] at htm
          rw [show tm[1]?.getD undef = _ from r 1 (rest_of (by kernel_rfl))] at htm
          rw [show tm[2]?.getD undef = _ from r 2 (rest_of (by kernel_rfl))] at htm
          rw [show tm[3]?.getD undef = _ from r 3 (rest_of (by kernel_rfl))] at htm
          rw [show tm[4]?.getD undef = _ from r 4 (rest_of (by kernel_rfl))] at htm
          rw [show tm[5]?.getD undef = _ from r 5 (rest_of (by kernel_rfl))] at htm
          rw [show tm[6]?.getD undef = _ from r 6 (rest_of (by kernel_rfl))] at htm
          rw [show tm[7]?.getD undef = _ from r 7 (rest_of (by kernel_rfl))] at htm
          rw [show tm[8]?.getD undef = _ from r 8 (rest_of (by kernel_rfl))] at htm
          rw [show tm[9]?.getD undef = _ from r 9 (rest_of (by kernel_rfl))] at htm
          rw [show tm[10]?.getD undef = _ from r 10 (rest_of (by kernel_rfl))] at htm
          rw [show tm[11]?.getD undef = _ from r 11 (rest_of (by kernel_rfl))] at htm
          rw [show tm[12]?.getD undef = _ from r 12 (rest_of (by kernel_rfl))] at htm
          rw [show tm[13]?.getD undef = _ from r 13 (rest_of (by kernel_rfl))] at htm
          rw [show tm[14]?.getD undef = _ from r 14 (rest_of (by kernel_rfl))] at htm
          rw [show tm[15]?.getD undef = _ from r 15 (rest_of (by kernel_rfl))] at htm
          rw [show tm[16]?.getD undef = _ from r 16 (rest_of (by kernel_rfl))] at htm
          rw [show tm[17]?.getD undef = _ from r 17 (rest_of (by kernel_rfl))] at htm
          rw [show tm[18]?.getD undef = _ from r 18 (rest_of (by kernel_rfl))] at htm
          rw [show tm[19]?.getD undef = _ from r 19 (rest_of (by kernel_rfl))] at htm
          rw [show tm[20]?.getD undef = _ from r 20 (rest_of (by kernel_rfl))] at htm
          rw [show tm[21]?.getD undef = _ from r 21 (rest_of (by kernel_rfl))] at htm
          rw [show tm[22]?.getD undef = _ from r 22 (rest_of (by kernel_rfl))] at htm
          rw [show tm[23]?.getD undef = _ from r 23 (rest_of (by kernel_rfl))] at htm
          rw [show tm[24]?.getD undef = _ from r 24 (rest_of (by kernel_rfl))] at htm
          rw [show tm[25]?.getD undef = _ from r 25 (rest_of (by kernel_rfl))] at htm
          rw [show tm[26]?.getD undef = _ from r 26 (rest_of (by kernel_rfl))] at htm
          rw [show tm[27]?.getD undef = _ from r 27 (rest_of (by kernel_rfl))] at htm
          rw [show tm[28]?.getD undef = _ from r 28 (rest_of (by kernel_rfl))] at htm
          rw [show tm[29]?.getD undef = _ from r 29 (rest_of (by kernel_rfl))] at htm
          rw [show tm[30]?.getD undef = _ from r 30 (rest_of (by kernel_rfl))] at htm
          rw [show tm[31]?.getD undef = _ from r 31 (rest_of (by kernel_rfl))] at htm
          rw [show tm[32]?.getD undef = _ from r 32 (rest_of (by kernel_rfl))] at htm
          rw [show tm[33]?.getD undef = _ from r 33 (rest_of (by kernel_rfl))] at htm
          rw [show tm[34]?.getD undef = _ from r 34 (rest_of (by kernel_rfl))] at htm
          rw [show tm[35]?.getD undef = _ from r 35 (rest_of (by kernel_rfl))] at htm
          rw [show tm[36]?.getD undef = _ from r 36 (rest_of (by kernel_rfl))] at htm
          rw [show tm[37]?.getD undef = _ from r 37 (rest_of (by kernel_rfl))] at htm
          rw [show tm[38]?.getD undef = _ from r 38 (rest_of (by kernel_rfl))] at htm
          rw [show tm[64]?.getD undef = _ from r 64 (rest_of (by kernel_rfl))] at htm
          rw [show tm[65]?.getD undef = _ from r 65 (rest_of (by kernel_rfl))] at htm
          rw [show tm[66]?.getD undef = _ from r 66 (rest_of (by kernel_rfl))] at htm
          rw [show tm[67]?.getD undef = _ from r 67 (rest_of (by kernel_rfl))] at htm
          rw [h24] at htm
          generalize tm[39]?.getD undef = u39 at htm
          generalize tm[40]?.getD undef = u40 at htm
          generalize tm[41]?.getD undef = u41 at htm
          generalize tm[42]?.getD undef = u42 at htm
          generalize tm[43]?.getD undef = u43 at htm
          generalize tm[44]?.getD undef = u44 at htm
          generalize tm[45]?.getD undef = u45 at htm
          generalize tm[46]?.getD undef = u46 at htm
          generalize tm[47]?.getD undef = u47 at htm
          generalize tm[48]?.getD undef = u48 at htm
          generalize tm[49]?.getD undef = u49 at htm
          generalize tm[50]?.getD undef = u50 at htm
          generalize tm[51]?.getD undef = u51 at htm
          generalize tm[52]?.getD undef = u52 at htm
          generalize tm[53]?.getD undef = u53 at htm
          generalize tm[54]?.getD undef = u54 at htm
          generalize tm[55]?.getD undef = u55 at htm
          generalize tm[56]?.getD undef = u56 at htm
          generalize tm[57]?.getD undef = u57 at htm
          generalize tm[58]?.getD undef = u58 at htm
          generalize tm[59]?.getD undef = u59 at htm
          generalize tm[60]?.getD undef = u60 at htm
          generalize tm[61]?.getD undef = u61 at htm
          generalize tm[62]?.getD undef = u62 at htm
          subst hdf
          rw [htm]
          clear hE htm hsz r h24
          subst hF
          go_wp2_with fail
          go_ret2
          exact HNo.out _ HB.out.drew HE.out
      · have HFin : Hid (R = if doneOf s.1 s.2 = 0 then some L else none) := hidb (by
          rw [HK.out.2.2.1]
          by_cases h0 : j < n
          · have hne : ¬ s.2 = 0 := fun e => hgo ⟨h0, e⟩
            rw [show n - j = n - (j + 1) + 1 by omega, dRun, if_neg hne, finR]
          · rw [show n - j = 0 by omega, dRun, finR])
        have HD : Hid (Calls Tryz.prog 24 #[.pointer (some ⟨q, 0, none⟩)] wr fun e w' => e = .returned (.int .i64 (doneOf s.1 s.2)) ∧ ∃ m, w' = wr.drewN m) := hidb (by
          obtain ⟨k1, e1, h1⟩ := HK.out.2.1.rd
          rw [e1]
          exact fdone_q q g bs k1 s.2 wr h1)
        have HKe := hidb HK.out.2.1
        clear HK
        have hcond : (¬ j < n) ∨ (j < n ∧ (s.2 == 0) = false) := by
          by_cases h0 : j < n
          · exact .inr ⟨h0, by simpa using fun e => hgo ⟨h0, e⟩⟩
          · exact .inl h0
        clear hgo
        generalize doneOf s.1 s.2 = dn at *
        rcases hcond with hc | ⟨hc, hc2⟩
        all_goals
          by_cases hdn : dn = 0
          · subst hdn
            have HE := hidb (HFin.out.trans (if_pos rfl))
            clear HFin HNo
            go_wp2_with (first
              | (go_at_call 24; refine HD.out.mono ?_; clear HD; rintro e w4 ⟨rfl, md, rfl⟩)
              | fail)
            go_ret2
            have h3 := below_dr HKe.out.bel md
            rw [HE.out]
            exact ⟨h3, _, v, rfl, HKe.out.st.drewN md, HKe.out.lo.2.2.1⟩
          · have hne : (dn != 0) = true := by simpa using hdn
            have HE := hidb (HFin.out.trans (if_neg hdn))
            clear HFin hdn
            go_wp2_with (first
              | (go_at_call 24; refine HD.out.mono ?_; clear HD; rintro e w4 ⟨rfl, md, rfl⟩)
              | fail)
            go_ret2
            exact HNo.out _ (below_dr HKe.out.bel md) HE.out
end Go.Proofs.YtcjakgogdbfagaaGreat

