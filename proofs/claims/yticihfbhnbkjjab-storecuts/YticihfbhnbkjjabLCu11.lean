/- Layer 11: the law StoreCuts. -/
import Derived.Test.YticihfbhnbkjjabKL
import Derived.Deep.QuietTactic
import Derived.BigQuiet
namespace Go.Proofs.Yticihfbhnbkjjab
open Go.RowKit
theorem cut_take (M : Kvs) (fr tk : Bt) (m : Int) (hm : 1 ≤ m) : scanL M fr tk m = (scanL M fr tk 0).take m.toNat := by
  unfold scanL
  rw [if_neg (by omega), if_pos rfl]
theorem most_is (m : Int) : ∃ mm : Nat, 1 ≤ mm ∧ mm ≤ 40 ∧ wrap64 (1 + (wrap64 (m.tmod 40 + 40)).tmod 40) = (mm : Int) := by
  have h1 : m.tmod 40 < 40 := Int.tmod_lt_of_pos m (by decide)
  have h2 : -40 < m.tmod 40 := Int.lt_tmod_of_pos m (by decide)
  generalize m.tmod 40 = x at h1 h2
  have e1 : wrap64 (x + 40) = x + 40 := by unfold wrap64; omega
  rw [e1]
  have h3 : (x + 40).tmod 40 < 40 := Int.tmod_lt_of_pos _ (by decide)
  have h4 : 0 ≤ (x + 40).tmod 40 := Int.tmod_nonneg _ (by omega)
  generalize (x + 40).tmod 40 = y at h3 h4
  refine ⟨(1 + y).toNat, by omega, by omega, ?_⟩
  unfold wrap64
  omega
set_option maxRecDepth 100000 in
set_option maxHeartbeats 2000000 in
theorem storeCuts_any (L : List Opn) (a : Option Addr) (n cap : Nat) (fr tk : Bt) (m : Int) (w : World) (hn : n = L.length) (hA : OpsAt w a L) (hok : ∀ x ∈ L, x.ok) (hlen : n ≤ 9223372036854775) :
    Calls Try.prog 4 #[.slice a n cap, sv fr, sv tk, .int .i64 m] w fun e w' => e = .returned (.bool true) ∧ Below w.heap.size w w' := by
  have HF := hidb (filled_any L a n cap w hn hA hok hlen)
  have HK := hidb knows11_any
  have hMO := fill_ok (L.take 700)
  generalize fillL (L.take 700) = M at HF hMO
  have HM := hidb hMO
  obtain ⟨mm, hm2, hm3, hmm⟩ := most_is m
  have HS : Hid (∀ sb rb W1 W2, FJ sb rb M M w W1 → Below W1.heap.size W1 W2 → Calls Try.prog 16 #[.pointer (some ⟨sb, 0, none⟩), sv fr, sv tk, .int .i64 0] W2 fun e w3 => ∃ xa n1 xc, e = .returned (.slice xa n1 xc) ∧ n1 ≤ 512 ∧ Hid (Calls Try.prog 16 #[.pointer (some ⟨sb, 0, none⟩), sv fr, sv tk, .int .i64 (mm : Int)] w3 fun e w4 => ∃ ya yc, e = .returned (.slice ya (min mm n1) yc) ∧ Hid (Calls Try.prog 16 #[.pointer (some ⟨sb, 0, none⟩), sv fr, sv tk, .int .i64 (-1)] w4 fun e w5 => e = .returned (.slice none 0 0) ∧ Hid (PRow xa n1 xc (scanL M fr tk 0) w5 ∧ PRow ya (min mm n1) yc ((scanL M fr tk 0).take mm) w5 ∧ Below w.heap.size w w5)))) := hidb fun sb rb W1 W2 hJ hb => by
    have hJ2 := hJ.below hb
    obtain ⟨tb, g, hst⟩ := hJ2.st
    refine (scan_f hst hMO.len fr tk 0 (by decide)).mono ?_
    rintro e w3 ⟨xa, n1, xc, e1, e2, H⟩
    have hp := H.out.1
    have hb3 := hJ2.bel.trans (H.out.2.mono hJ2.bel.size)
    have hst3 := hst.below H.out.2
    refine ⟨xa, n1, xc, e1, e2, hidb ((scan_f hst3 hMO.len fr tk (mm : Int) (by omega)).mono ?_)⟩
    rintro e w4 ⟨ya, n2, yc, f1, f2, H4⟩
    have hp4 := H4.out.1
    rw [cut_take M fr tk mm (by omega), Int.toNat_natCast] at hp4
    have hn2 : n2 = min mm n1 := by rw [hp4.1, hp.1, List.length_take]
    subst hn2
    refine ⟨ya, yc, f1, hidb ((scan_neg sb tb g M fr tk (-1) w4 (hst3.below H4.out.2) (by decide)).mono ?_)⟩
    rintro e w5 ⟨f5, hb5⟩
    have hb4 := hb3.trans (H4.out.2.mono hb3.size)
    exact ⟨f5, hidb ⟨(hp.below H4.out.2).below hb5, hp4.below hb5, hb4.trans (hb5.mono hb4.size)⟩⟩
  clear hMO hA hok hn
  go_enter Try.func4, Try.ntmps4
  go_wp2_with (first
    | (go_at_call 5; refine HF.out.mono ?_; clear HF; rintro e w1 ⟨sb, rb, rfl, J1⟩)
    | (go_at_call 7; refine (HK.out _).mono ?_; clear HK; rintro e w2 ⟨rfl, hb2⟩; replace HS := hidb (HS.out sb rb _ _ J1.out hb2); clear J1 hb2)
    | (go_at_call 16; refine HS.out.mono ?_; clear HS; rintro e w3 ⟨xa, n1, xc, rfl, h1, HS2⟩)
    | (go_at_call 16; refine HS2.out.mono ?_; clear HS2; rintro e w4 ⟨ya, yc, rfl, HS3⟩)
    | (go_at_call 16; refine HS3.out.mono ?_; clear HS3; rintro e w5 ⟨rfl, K5⟩)
    | fail)
  clear hmm
  have hle : min mm n1 ≤ 512 := by omega
  generalize min mm n1 = n2 at K5 hle
  obtain ⟨hx, hy, hbl⟩ := K5.out
  have HX := hidb (And.intro hx hy)
  have HB := hidb hbl
  clear K5 hx hy hbl
  go_loopw [13] (fun iv wr => ∃ i : Nat, iv = .int .i64 i ∧ i ≤ n2 ∧ ∃ q, wr = w5.drewN q) (fun iv _ => n2 - (intOf iv).toNat)
  case atStart => exact ⟨0, rfl, Nat.zero_le _, 0, rfl⟩
  case round =>
    obtain ⟨i, rfl, hi, q, hwr⟩ := hrel
    have HW := hidb hwr
    by_cases hlt : i < n2
    · obtain ⟨hx, hy⟩ := HX.out
      have hi2 : i < ((scanL M fr tk 0).take mm).length := by rw [← hy.1]; exact hlt
      have hi1 : i < (scanL M fr tk 0).length := by rw [List.length_take] at hi2; omega
      obtain ⟨gx, ex, hgx, x0, x1⟩ := hx.at hi1
      obtain ⟨gy, ey, hgy, y0, y1⟩ := hy.at hi2
      rw [List.getElem_take] at y0 y1
      obtain ⟨hin1, hin2⟩ := scan_at_in hi1
      have hb1 : Op.bytesLess (scanL M fr tk 0)[i].1 fr = false := by simpa using hin1
      have c0 : wr.cell? ⟨gx, i * 2, none⟩ = some (sv (scanL M fr tk 0)[i].1) := by rw [hwr]; exact x0
      have c1 : wr.cell? ⟨gx, i * 2 + 1, none⟩ = some (sv (scanL M fr tk 0)[i].2) := by rw [hwr]; exact x1
      have d0 : wr.cell? ⟨gy, i * 2, none⟩ = some (sv (scanL M fr tk 0)[i].1) := by rw [hwr]; exact y0
      have d1 : wr.cell? ⟨gy, i * 2 + 1, none⟩ = some (sv (scanL M fr tk 0)[i].2) := by rw [hwr]; exact y1
      have hn1 : i < n1 := by rw [hx.1]; exact hi1
      have hbl : tk = [] ∨ tk.isEmpty = false ∧ Op.bytesLess (scanL M fr tk 0)[i].1 tk = true := by
        cases tk with
        | nil => exact .inl rfl
        | cons c tl =>
          right
          refine ⟨rfl, ?_⟩
          unfold inB ltB at hin2
          simpa using hin2
      rw [ex, ey]
      have HE := hidb (And.intro ex ey)
      clear hx hy x0 x1 y0 y1 hin1 hin2 hi2 ex ey hwr
      generalize (scanL M fr tk 0)[i] = x at c0 c1 d0 d1 hb1 hbl
      obtain ⟨xk, xv⟩ := x
      simp only at c0 c1 d0 d1 hb1 hbl
      rcases hbl with rfl | ⟨hem, hb2⟩
      · go_wp2_with fail
        go_quiet (fail)
        go_wp2_with fail
        exact ⟨⟨i + 1, by go_num, by omega, q + nq, by rw [HW.out, World.drewN_drewN]⟩, by simp [intOf]; omega⟩
      · go_wp2_with fail
        go_quiet (fail)
        go_wp2_with fail
        exact ⟨⟨i + 1, by go_num, by omega, q + nq, by rw [HW.out, World.drewN_drewN]⟩, by simp [intOf]; omega⟩
    · clear hwr
      go_wp2_with fail
      go_ret
      exact ⟨rfl, by rw [HW.out]; exact below_drewN HB.out q⟩
end Go.Proofs.Yticihfbhnbkjjab
