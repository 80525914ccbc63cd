/- What the document's own Frame comes to, and the law's helper Stays. -/
import Derived.Test.YtmaecpmdikdclaaWR
namespace Go.Proofs.Ytmaecpmdikdclaa
open Go.RowKit

theorem be_drop4 (n : Nat) : (be n 8).drop 4 = be n 4 := by
  have e1 : be n 8 = [UInt8.ofNat (n / 256 ^ 7), UInt8.ofNat (n / 256 ^ 6), UInt8.ofNat (n / 256 ^ 5), UInt8.ofNat (n / 256 ^ 4), UInt8.ofNat (n / 256 ^ 3), UInt8.ofNat (n / 256 ^ 2), UInt8.ofNat (n / 256 ^ 1), UInt8.ofNat (n / 256 ^ 0)] := rfl
  have e2 : be n 4 = [UInt8.ofNat (n / 256 ^ 3), UInt8.ofNat (n / 256 ^ 2), UInt8.ofNat (n / 256 ^ 1), UInt8.ofNat (n / 256 ^ 0)] := rfl
  rw [e1, e2]; rfl
theorem ofNat_mod (a b : Nat) (h : a % 256 = b % 256) : UInt8.ofNat a = UInt8.ofNat b := by
  apply UInt8.toNat_inj.1
  rw [UInt8.toNat_ofNat', UInt8.toNat_ofNat']
  omega
theorem quad (a b c d : Nat) (hb : b < 256) (hc : c < 256) (hd : d < 256) : (a * 16777216 + b * 65536 + c * 256 + d) / 16777216 = a ∧ (a * 16777216 + b * 65536 + c * 256 + d) / 65536 = a * 256 + b ∧ (a * 16777216 + b * 65536 + c * 256 + d) / 256 = a * 65536 + b * 256 + c := by
  refine ⟨?_, ?_, ?_⟩
  · rw [show a * 16777216 + b * 65536 + c * 256 + d = 16777216 * a + (b * 65536 + c * 256 + d) by omega, Nat.mul_add_div (by decide), Nat.div_eq_of_lt (by omega), Nat.add_zero]
  · rw [show a * 16777216 + b * 65536 + c * 256 + d = 65536 * (a * 256 + b) + (c * 256 + d) by omega, Nat.mul_add_div (by decide), Nat.div_eq_of_lt (by omega), Nat.add_zero]
  · rw [show a * 16777216 + b * 65536 + c * 256 + d = 256 * (a * 65536 + b * 256 + c) + d by omega, Nat.mul_add_div (by decide), Nat.div_eq_of_lt (by omega), Nat.add_zero]
theorem be_rev4 (c : Nat) (h : c < 4294967296) : be (rev4 c) 4 = [UInt8.ofNat c, UInt8.ofNat (c / 256), UInt8.ofNat (c / 65536), UInt8.ofNat (c / 16777216)] := by
  have e2 : be (rev4 c) 4 = [UInt8.ofNat (rev4 c / 256 ^ 3), UInt8.ofNat (rev4 c / 256 ^ 2), UInt8.ofNat (rev4 c / 256 ^ 1), UInt8.ofNat (rev4 c / 256 ^ 0)] := rfl
  obtain ⟨q1, q2, q3⟩ := quad (c % 256) (c / 256 % 256) (c / 65536 % 256) (c / 16777216) (by omega) (by omega) (by omega)
  have r : rev4 c = c % 256 * 16777216 + c / 256 % 256 * 65536 + c / 65536 % 256 * 256 + c / 16777216 := rfl
  rw [← r] at q1 q2 q3
  rw [e2, show (256 : Nat) ^ 3 = 16777216 from rfl, show (256 : Nat) ^ 2 = 65536 from rfl, show (256 : Nat) ^ 1 = 256 from rfl, show (256 : Nat) ^ 0 = 1 from rfl, q1, q2, q3, Nat.div_one,
    ofNat_mod (c % 256) c (by omega), ofNat_mod (c % 256 * 256 + c / 256 % 256) (c / 256) (by omega), ofNat_mod (c % 256 * 65536 + c / 256 % 256 * 256 + c / 65536 % 256) (c / 65536) (by omega), ofNat_mod (rev4 c) (c / 16777216) (by rw [r]; omega)]
theorem low_byte (c : Nat) : (c : Int) % 256 = (((UInt8.ofNat c).toNat : Nat) : Int) := by rw [UInt8.toNat_ofNat']; omega

set_option maxHeartbeats 1000000 in
theorem stays_any (g len cap : Nat) (base : Nat) (bs : List UInt8) (ao : Option Addr) (c : Nat) (w : World) (hl : bs.length = len) (hm : len ≤ 140737488351232) (hO : OwnB w base (.slice (some ⟨g, 0, none⟩) (len + 2) cap) (bs ++ [77, 78])) (hb : Bs w ao bs) :
    Calls Try.prog 19 #[.slice (some ⟨g, 0, none⟩) len cap, .slice ao len c] w fun e w' => e = .returned (.bool true) ∧ Below w.heap.size w w' := by
  obtain ⟨hcap, hmx, hcell⟩ : len + 2 ≤ cap ∧ cap ≤ maxLen ∧ ∀ j u, ((bs ++ [77, 78]).map bv)[j]? = some u → w.cell? ⟨g, j, none⟩ = some u := by
    obtain ⟨ao', cap', hv, h1, h2, _, _, h5⟩ := Own.form hO
    simp only [Value.slice.injEq] at hv
    obtain ⟨rfl, _, rfl⟩ := hv
    obtain ⟨g', hg', hc⟩ := h5 _ rfl
    cases hg'
    simp only [List.length_map, List.length_append, hl] at h1
    exact ⟨h1, h2, hc⟩
  have hB1 : Bs w (some ⟨g, 0, none⟩) bs := by
    refine .inr ⟨g, 0, rfl, fun j hj => ?_⟩
    rw [Nat.zero_add]
    refine hcell j _ ?_
    rw [List.getElem?_map, List.getElem?_append_left hj, List.getElem?_eq_getElem hj]; rfl
  have c77 : w.cell? ⟨g, len, none⟩ = some (.int .u8 77) := hcell len _ (by subst hl; rw [List.getElem?_map, List.getElem?_append_right (Nat.le_refl _)]; simp [bv])
  have c78 : w.cell? ⟨g, len + 1, none⟩ = some (.int .u8 78) := hcell (len + 1) _ (by subst hl; rw [List.getElem?_map, List.getElem?_append_right (by omega)]; simp [bv])
  have s1 : ∀ nq, (convert 25 9 (.slice (some ⟨g, 0, none⟩) len cap)).run Try.prog (w.drewN nq) = .ok (.string ⟨bs.toArray⟩) (w.drewN nq) := fun nq => by
    subst hl; exact run_str (hB1.keep (fun a v h => by simpa using h)) cap
  have s2 : ∀ nq, (convert 25 9 (.slice ao len c)).run Try.prog (w.drewN nq) = .ok (.string ⟨bs.toArray⟩) (w.drewN nq) := fun nq => by
    subst hl; exact run_str (hb.keep (fun a v h => by simpa using h)) c
  have hi1 : (0 : Int) ≤ (len : Int) + 2 := by omega
  have hi2 : (len : Int) + 2 ≤ (cap : Int) := by omega
  unfold maxLen at hmx
  clear hcell hB1 hO hb
  go_enter Try.func19, Try.ntmps19
  go_wp2
  go_quiet (fail)
  go_wp2
  go_ret
  exact ⟨rfl, below_drewN (Below.refl _ _) _⟩

end Go.Proofs.Ytmaecpmdikdclaa
