/- Layer 11: the law StoreBack. -/
import Derived.Test.YticihfbhnbkjjaaDoorLOr11p
import Derived.Test.YticihfbhnbkjjaaDoorKF
import Derived.Deep.RegionHeld3
namespace Go.Proofs.YticihfbhnbkjjaaDoor
open Go.RowKit
set_option maxRecDepth 100000 in
set_option maxHeartbeats 1000000 in
theorem storeBack_any (L : List Opn) (a : Option Addr) (n cap : Nat) (w : World) (hn : n = L.length) (hA : OpsAt w a L) (hok : ∀ x ∈ L, x.ok) (hlen : n ≤ 9223372036854775) (ht : Tab w) :
    Calls Tryd.prog 5 #[.slice a n cap] w fun e w' => e = .returned (.bool true) ∧ Below w.heap.size w w' := by
  have HF := hidb (filled_any L a n cap w hn hA hok hlen)
  have HK := hidb knows11_any
  have HNum := hidb num11_any
  have hMO := fill_ok (L.take 700)
  generalize fillL (L.take 700) = M at HF hMO
  have HM := hidb hMO
  have HPre : Hid (∀ sb rb W, FJ sb rb M M w W → _) := hidb fun sb rb W J => bk_pre (W := W) J hMO
  have HBy : Hid (∀ sb r c t p W, (p = sb ∨ p = r ∨ p = c ∨ p = t) → Bk sb r c t M M w W → _) := hidb fun sb r c t p W hp h => h.bytes hMO p hp
  have HHa : Hid (∀ sb r c t p W, (p = sb ∨ p = r ∨ p = c ∨ p = t) → Bk sb r c t M M w W → _) := hidb fun sb r c t p W hp h => h.hash hMO ht p hp
  have HFi : Hid (∀ sb r c t W, Bk sb r c t M M w W → Calls Tryd.prog 14 #[.pointer (some ⟨c, 0, none⟩), sv [110, 101, 119], sv [118, 97, 108, 117, 101, 32, 111, 102, 32, 97, 32, 99, 111, 112, 121]] W fun e w1 => ∃ pe, e = .returned (.int .i64 pe) ∧ Hid (Calls Tryd.prog 15 #[.pointer (some ⟨c, 0, none⟩), sv [97]] w1 fun e w2 => ∃ b, e = .returned (.bool b) ∧
      Hid (Calls Tryd.prog 18 #[.pointer (some ⟨sb, 0, none⟩)] w2 fun e w3 => ∃ q k, e = .returned (.slice (some ⟨q, 0, none⟩) k k) ∧ (convert 42 9 (.slice (some ⟨q, 0, none⟩) k k)).run Tryd.prog w3 = .ok (sv (stB M)) w3 ∧ Hid (Below w.heap.size w w3)))) := hidb fun sb r c t W h => by
    refine (h.two.put hMO.len _ _ (by decide) (by decide)).mono ?_
    rintro e w1 ⟨rfl, H1⟩
    refine ⟨_, rfl, hidb ((H1.out.del _).mono ?_)⟩
    rintro e w2 ⟨rfl, H2⟩
    obtain ⟨⟨tb, g, hst⟩, hb⟩ := H2.out
    refine ⟨_, rfl, hidb ((bytes_s hst hMO).mono ?_)⟩
    rintro e w3 ⟨q, k, e1, e2, H3⟩
    exact ⟨q, k, e1, e2 0, hidb (hb.trans (H3.out.2.2.mono hb.size))⟩
  have HPu : Hid (∀ sb r c t W j (hj : j < M.length), Bk sb r c t M (M.drop (j + 1)) w W → Calls Tryd.prog 14 #[.pointer (some ⟨t, 0, none⟩), sv M[j].1, sv [120]] W fun e w1 => e = .returned (.int .i64 0) ∧ Hid ((∀ va n vc X, PRow va n vc X W → PRow va n vc X w1) ∧ Calls Tryd.prog 14 #[.pointer (some ⟨t, 0, none⟩), sv M[j].1, sv M[j].2] w1 fun e w2 => e = .returned (.int .i64 0) ∧ Hid ((∀ va n vc X, PRow va n vc X w1 → PRow va n vc X w2) ∧ Bk sb r c t M (M.drop j) w w2))) := hidb fun sb r c t W j hj h => by
    obtain ⟨p1, p2, p3, p4⟩ := put_ahead hMO hj
    obtain ⟨b1, b2⟩ := hMO.small M[j] (List.getElem_mem hj)
    have hl := hMO.len
    refine (h.put (by rw [List.length_drop]; omega) M[j].1 [120] (by omega) (by decide)).mono ?_
    rintro e w1 ⟨rfl, H1⟩
    rw [p1]
    refine ⟨rfl, hidb ⟨H1.out.2, (H1.out.1.put p4 M[j].1 M[j].2 (by omega) (by omega)).mono ?_⟩⟩
    rintro e w2 ⟨rfl, H2⟩
    have h2 := H2.out
    rw [p3] at h2
    rw [p2]
    exact ⟨rfl, hidb ⟨h2.2, h2.1⟩⟩
  have hcr := crc_lt (stB M)
  clear hMO hA hok hn ht
  go_enter Tryd.func5, Tryd.ntmps5
  go_wp2_with (first
    | (go_at_call 26; refine HF.out.mono ?_; clear HF; rintro e w1 ⟨sb, rb, rfl, J1⟩)
    | (go_at_call 7; refine (HK.out _).mono ?_; clear HK; rintro e w2 ⟨rfl, hb2⟩; have HB1 := hidb (HPre.out sb rb _ (J1.out.below hb2)); clear J1 hb2 HPre)
    | (go_at_call 18; refine HB1.out.mono ?_; clear HB1; rintro e w3 ⟨q, k0, rfl, HB2⟩)
    | (go_at_call 27; refine HB2.out.mono ?_; clear HB2; rintro e w4 ⟨r, rfl, HB3⟩)
    | (go_at_call 24; refine HB3.out.mono ?_; clear HB3; rintro e w5 ⟨c, rfl, HB4⟩)
    | (go_at_call 13; refine (HNum.out _ _).mono ?_; rintro e wn ⟨rfl, rfl⟩)
    | (go_at_call 6; refine HB4.out.mono ?_; clear HB4; rintro e w6 ⟨t, rfl, HB5⟩)
    | (go_at_call 19; refine HB5.out.mono ?_; clear HB5; rintro e w7 ⟨va, k, vc, rfl, hk5, K7⟩)
    | fail)
  have Hk : Hid (k = M.length) := hidb K7.out.1.1
  go_loopw [10] (fun iv wr => ∃ i : Nat, iv = .int .i64 ((i : Int) - 1) ∧ i ≤ k ∧ Hid (PRow va k vc M wr ∧ Bk sb r c t M (M.drop i) w wr)) (fun iv _ => (intOf iv + 1).toNat)
  case atStart =>
    refine ⟨k, rfl, Nat.le_refl _, hidb ⟨K7.out.1, ?_⟩⟩
    rw [Hk.out, List.drop_length]
    exact K7.out.2
  case round =>
    obtain ⟨i, rfl, hi, HR⟩ := hrel
    clear K7
    cases i with
    | zero =>
      have HI : Hid (Bk sb r c t M M w wr) := hidb HR.out.2
      clear HR
      have hd : decide ((0 : Int) ≤ ((0 : Nat) : Int) - 1) = false := by decide
      generalize crc (stB M) = x at *
      generalize stB M = XB at *
      go_wp2_with (first
        | (go_at_call 18; first
            | (refine HZ2.out.mono ?_; clear HZ2; rintro e wz ⟨qz, kz, rfl, cvz, KZ⟩)
            | (refine (HBy.out sb r c t _ _ (by simp) HI.out).mono ?_; clear HI; rintro e wb ⟨qb, kb, rfl, cvb, HI⟩))
        | (go_at_call 17; refine (HHa.out sb r c t _ _ (by simp) HI.out).mono ?_; clear HI; rintro e wb ⟨rfl, HI⟩)
        | (go_at_call 14; refine (HFi.out sb r c t _ HI.out).mono ?_; clear HI HBy; rintro e wp ⟨pe, rfl, HZ⟩)
        | (go_at_call 15; refine HZ.out.mono ?_; clear HZ; rintro e wq ⟨b, rfl, HZ2⟩)
        | fail)
      go_ret
      exact ⟨by simp, KZ.out⟩
    | succ j =>
      have hjl : j < M.length := by have := Hk.out; omega
      have ej : (((j + 1 : Nat) : Int) - 1) = (j : Int) := by omega
      rw [ej]
      have hjk : j < k := by omega
      have hj0 : (0 : Int) ≤ (j : Int) := by omega
      have hj1 : (j : Int) < (k : Int) := by omega
      have hd1 : decide ((j : Int) < (k : Int)) = true := by simp; omega
      obtain ⟨g, eg, hg, d2, d3⟩ := HR.out.1.at hjl
      have HP : Hid (∀ m, Calls Tryd.prog 14 #[.pointer (some ⟨t, 0, none⟩), sv M[j].1, sv [120]] (wr.drewN m) fun e w2 => e = .returned (.int .i64 0) ∧ (w2.cell? ⟨g, j * 2, none⟩ = some (sv M[j].1) ∧ w2.cell? ⟨g, j * 2 + 1, none⟩ = some (sv M[j].2)) ∧ Hid (Calls Tryd.prog 14 #[.pointer (some ⟨t, 0, none⟩), sv M[j].1, sv M[j].2] w2 fun e w3 => e = .returned (.int .i64 0) ∧ (w3.cell? ⟨g, j * 2, none⟩ = some (sv M[j].1) ∧ w3.cell? ⟨g, j * 2 + 1, none⟩ = some (sv M[j].2)) ∧ Hid (PRow va k vc M w3 ∧ Bk sb r c t M (M.drop j) w w3))) := hidb fun m => by
        have hrow : ∀ W, PRow va k vc M W → W.cell? ⟨g, j * 2, none⟩ = some (sv M[j].1) ∧ W.cell? ⟨g, j * 2 + 1, none⟩ = some (sv M[j].2) := fun W hr => by
          obtain ⟨g', eg', _, f2, f3⟩ := hr.at hjl
          rw [eg] at eg'
          injection eg' with e
          injection e with e
          subst e
          exact ⟨f2, f3⟩
        have hb := below_drewN (Below.refl wr.heap.size wr) m
        refine (HPu.out sb r c t _ j hjl (HR.out.2.below hb)).mono ?_
        rintro e w2 ⟨rfl, H2⟩
        have r2 := H2.out.1 _ _ _ _ (HR.out.1.below hb)
        refine ⟨rfl, hrow _ r2, hidb (H2.out.2.mono ?_)⟩
        rintro e w3 ⟨rfl, H3⟩
        have r3 := H3.out.1 _ _ _ _ r2
        exact ⟨rfl, hrow _ r3, hidb ⟨r3, H3.out.2⟩⟩
      rw [eg]
      have HEg := hidb eg
      clear HR eg HPu HFi HBy HHa
      generalize M[j].1 = ok at HP d2
      generalize M[j].2 = ov at HP d3
      go_wp2_with fail
      go_region_held3 (fun W => W.cell? ⟨g, j * 2, none⟩ = some (sv ok) ∧ W.cell? ⟨g, j * 2 + 1, none⟩ = some (sv ov)) (first | go_keep | exact ⟨x2, x3⟩ | exact ⟨y2, y3⟩ | exact ⟨d2, d3⟩) (first
        | (go_at_call 14; first | (refine (HP.out _).mono ?_; clear HP; rintro e w8 ⟨rfl, ⟨x2, x3⟩, HP2⟩) | (refine HP2.out.mono ?_; clear HP2; rintro e w9 ⟨rfl, ⟨y2, y3⟩, HP3⟩))
        | (go_at_call 13; refine (HNum.out _ _).mono ?_; rintro e wn ⟨rfl, rfl⟩))
      go_wp2_with fail
      rw [HEg.out] at HP3
      exact ⟨⟨j, by go_num, by omega, HP3⟩, by simp [intOf]⟩
end Go.Proofs.YticihfbhnbkjjaaDoor
