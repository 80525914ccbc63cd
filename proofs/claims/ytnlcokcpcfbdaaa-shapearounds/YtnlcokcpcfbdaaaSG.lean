/- shape.leadToEnds. -/
import Derived.Test.YtnlcokcpcfbdaaaSF
namespace Go.Proofs.Ytnlcokcpcfbdaaa
open Go.RowKit
/-- Leaves lead on, from place k on. -/
def leadS (ops : List Int) (ms : List Int) : Nat → List Int
  | 0 => ms
  | k + 1 => let r := leadS ops ms k
    if ops[k]? = some 52 then r.set k (r.getD (r.getD k 0).toNat 0) else r
theorem leadS_len (ops ms : List Int) : ∀ k, (leadS ops ms k).length = ms.length
  | 0 => rfl
  | k + 1 => by
    simp only [leadS]
    split
    · rw [List.length_set, leadS_len ops ms k]
    · exact leadS_len ops ms k
theorem leadS_same (ops ms : List Int) : ∀ k j, k ≤ j → (leadS ops ms k).getD j 0 = ms.getD j 0
  | 0, _, _ => rfl
  | k + 1, j, h => by
    simp only [leadS]
    split
    · rw [List.getD_eq_getElem?_getD, List.getElem?_set_ne (by omega), ← List.getD_eq_getElem?_getD]
      exact leadS_same ops ms k j (by omega)
    · exact leadS_same ops ms k j (by omega)
set_option maxRecDepth 100000 in
set_option maxHeartbeats 1000000 in
theorem lead_any (cs : List (Int × Int)) (ca : Option Addr) (cc cb co : Nat) (hca : cs = [] ∨ ca = some ⟨cb, co, none⟩) (hn : cs.length ≤ 1000000000) (g : Nat) (ms : List Int) (hml : ms.length = cs.length) (cap : Nat) (hcap : cs.length ≤ cap) (hgc : cb ≠ g)
    (hm : ∀ k (h : k < cs.length), cs[k].1 = 52 → 0 ≤ ms.getD k 0 ∧ ms.getD k 0 < cs.length)
    (W : World) (hc : ∀ j (h : j < cs.length), W.cell? ⟨cb, co + j * 2, none⟩ = some (.int .i64 cs[j].1) ∧ W.cell? ⟨cb, co + j * 2 + 1, none⟩ = some (.int .i64 cs[j].2)) (h : NumBlk g ms W) :
    Calls Try.prog 27 #[.slice ca cs.length cc, .slice (some ⟨g, 0, none⟩) cs.length cap] W fun e w' => e = .returned (.tuple #[]) ∧ NumBlk g (leadS (opsI cs) ms cs.length) w' ∧ Only g W w' := by
  obtain ⟨n, hn'⟩ : ∃ n, n = cs.length := ⟨_, rfl⟩
  have HN := hid6 hn'
  rw [← hn'] at hn hcap hml ⊢
  have HC := hid6 hc
  have HM := hid6 hm
  have H0 := hid6 h
  have HL := hid6 hml
  clear hc hm h hml hn'
  go_enter Try.func27, Try.ntmps27
  go_wp2_with fail
  go_loopw [8] (fun i wr => ∃ k : Nat, k ≤ n ∧ i = .int .i64 k ∧ Hid (NumBlk g (leadS (opsI cs) ms k) wr ∧ Only g W wr)) (fun i _ => n - (intOf i).toNat)
  case atStart => exact ⟨0, Nat.zero_le _, rfl, hid6 ⟨H0.out, Only.refl _ _⟩⟩
  case round =>
    obtain ⟨k, hk, rfl, HR⟩ := hrel
    by_cases hlt : k < n
    · have kl : k < cs.length := by have := HN.out; omega
      have hcw : wr.cell? ⟨cb, co + k * 2, none⟩ = some (.int .i64 cs[k].1) ∧ wr.cell? ⟨cb, co + k * 2 + 1, none⟩ = some (.int .i64 cs[k].2) := by
        obtain ⟨c0, c1⟩ := HC.out k kl
        exact ⟨(HR.out.2.cell c0 (by simpa using hgc)), (HR.out.2.cell c1 (by simpa using hgc))⟩
      obtain ⟨c0, c1⟩ := hcw
      have ha : ca = some ⟨cb, co, none⟩ := by
        rcases hca with h | h
        · rw [h] at kl; cases kl
        · exact h
      subst ha
      have hop : (opsI cs)[k]? = some cs[k].1 := by simp [opsI, kl]
      have HM2 := hid6 (HM.out k kl)
      obtain ⟨nn, hnn⟩ : ∃ nn, nn = cs[k].1 := ⟨_, rfl⟩
      obtain ⟨na, hna⟩ : ∃ na, na = cs[k].2 := ⟨_, rfl⟩
      rw [← hnn] at c0 hop HM2
      rw [← hna] at c1
      clear hnn hna hca
      by_cases h52 : nn = 52
      · subst h52
        obtain ⟨ml, mu⟩ := HM2.out rfl
        obtain ⟨R, hR⟩ : ∃ R, R = leadS (opsI cs) ms k := ⟨_, rfl⟩
        have hB := HR.out.1
        rw [← hR] at hB
        have hRl : R.length = n := by rw [hR, leadS_len]; exact HL.out
        have hRk : R.getD k 0 = ms.getD k 0 := by rw [hR]; exact leadS_same _ _ _ _ (Nat.le_refl _)
        obtain ⟨q, hq⟩ : ∃ q : Nat, R.getD k 0 = (q : Int) := ⟨(ms.getD k 0).toNat, by rw [hRk]; omega⟩
        have hqn : q < n := by rw [hRk] at hq; have := HN.out; omega
        have HE : Hid (leadS (opsI cs) ms (k + 1) = R.set k (R.getD q 0)) := hid6 (by simp only [leadS]; rw [if_pos hop, ← hR, hq]; rfl)
        obtain ⟨p0, z0⟩ := hB.at k (by omega)
        obtain ⟨p1, z1⟩ := hB.at q (by omega)
        have e0 : R[k]'(by omega) = (q : Int) := by rw [← hq, List.getD_eq_getElem?_getD, List.getElem?_eq_getElem (by omega)]; rfl
        have e1 : R[q]'(by omega) = R.getD q 0 := by rw [List.getD_eq_getElem?_getD, List.getElem?_eq_getElem (by omega)]; rfl
        rw [e0] at p0
        rw [e1] at p1
        generalize R.getD q 0 = y at p1 HE
        have H2 := hid6 (hB.set k y)
        have hgl := blk_lt hB
        clear hB e0 e1 hq hRk hR hRl mu ml hop
        go_wp2_with fail
        refine ⟨⟨k + 1, by omega, by simp, hid6 ⟨?_, ?_⟩⟩, ?_⟩
        · rw [HE.out]; exact H2.out.alloc _
        · exact HR.out.2.trans ((Only.set g k _ _).trans (Only.below ((Below.refl _ _).alloc (Nat.le_refl _) _)))
        · simp [intOf]; omega
      · have HE : Hid (leadS (opsI cs) ms (k + 1) = leadS (opsI cs) ms k) := hid6 (by simp only [leadS]; rw [if_neg (by rw [hop]; simpa using h52)])
        clear hop HM2
        go_wp2_with fail
        refine ⟨⟨k + 1, by omega, by simp, hid6 ⟨?_, ?_⟩⟩, ?_⟩
        · rw [HE.out]; exact HR.out.1.alloc _
        · exact HR.out.2.trans (Only.below ((Below.refl _ _).alloc (Nat.le_refl _) _))
        · simp [intOf]; omega
    · have : k = n := by omega
      subst this
      go_wp2_with fail
      go_end0
      exact ⟨rfl, HR.out.1, HR.out.2⟩
end Go.Proofs.Ytnlcokcpcfbdaaa
