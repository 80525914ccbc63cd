/- The law BoundParts. -/
import Derived.Test.YtodagpmcmjleaaaYO
import Derived.Test.YtodagpmcmjleaaaLTo9
namespace Go.Proofs.Ytodagpmcmjleaaa
open Go.RowKit
set_option maxRecDepth 100000 in
set_option maxHeartbeats 2000000 in
theorem parts9_any (cs : List (Int × Int)) (ns : List Int) (ca na : Option Addr) (cc nc n k : Nat) (hn : cs.length = n) (hk : ns.length = k) (bn : n ≤ 8796093022208) (bk : k ≤ 17592186044416) (w : World) (hc : IsAt w.cell? ca cs) (hz : NsAt w.cell? na ns) :
    Calls Try.prog 3 #[.slice ca n cc, .slice na k nc] w fun e w' => e = .returned (.bool true) ∧ Below w.heap.size w w' := by
  by_cases h6 : 600 < n
  · clear hc hn hz hk
    go_enter Try.func3, Try.ntmps3
    go_wp2_with (first | (go_at_call 8; refine (knows9_any _).mono ?_; rintro e w8 ⟨rfl, b8⟩) | fail)
    all_goals first | (exfalso; omega) | (go_ret; exact ⟨rfl, b8⟩)
  obtain ⟨A, hA⟩ : ∃ A, A = (partS cs ns).1 := ⟨_, rfl⟩
  obtain ⟨E, hE⟩ : ∃ E, E = (partS cs ns).2 := ⟨_, rfl⟩
  have HO : Hid (Calls Try.prog 9 #[.slice ca n cc] w fun e W => ∃ a1 c1, e = .returned (.slice a1 n c1) ∧ Hid (IsAt W.cell? a1 cs ∧ Below w.heap.size w W)) := hid9 ((own6_any cs ca cc n hn bn w hc).mono fun e W ⟨a1, c1, h1, _, h2, h3⟩ => ⟨a1, c1, by rw [← hn]; exact h1, hid9 ⟨ins_row h2 (Below.refl _ _), h3⟩⟩)
  have HA : Hid (∀ a1 (W : World) (v' : Value) (w6 : World), IsAt W.cell? a1 cs ∧ Below w.heap.size w W → w6.ownsRow W.heap.size 3 1 v' (0 + k) ([] ++ cellsN ns) → Step (W.alloc (.cells #[] 3)) (.slice (some ⟨W.heap.size, 0, none⟩) 0 0) w6 v' → ∃ va vc, v' = .slice va k vc ∧ Hid (NsAt w6.cell? va ns ∧ IsAt w6.cell? a1 cs ∧ Below w.heap.size w w6)) := hid9 fun a1 W v' w6 hW hr hs => by
    rw [Nat.zero_add, List.nil_append, ← hk] at hr
    have b2 : Below W.heap.size W w6 := below_new6 ((Below.refl _ W).alloc (Nat.le_refl _) _) hs (fun g e => ((own_empty W 3 1 W.heap.size (Nat.le_refl _)).lt g e).1) (by simp)
    obtain ⟨_, va, vc, e3, _, hN⟩ := ns_of_row hr (C := w6.cell?) (fun a v _ h => h)
    exact ⟨va, vc, by rw [← hk]; exact e3, hid9 ⟨hN, hW.1.keep (below_keep b2), hW.2.trans (b2.mono hW.2.size)⟩⟩
  have HLz : Hid (∀ W o, Below w.heap.size w W → Lies (W.alloc o) (.slice na k nc) k (cellsN ns)) := hid9 fun W o hb => by
    rw [← hk]
    exact (hz.keep (below_keep (hb.alloc hb.size o))).lies nc
  have hxl : (cellsN ns).length = k * 1 := by rw [cellsN_len, hk]
  have HX : Hid (∀ u ∈ cellsN ns, u.oneCell' = true) := hid9 (cellsN_one _)
  have HP : Hid (∀ a1 c1 va vc W, NsAt W.cell? va ns ∧ IsAt W.cell? a1 cs ∧ Below w.heap.size w W → Calls Try.prog 10 #[.slice a1 n c1, .slice va k vc] W fun e W1 => e = .returned (.tuple #[.int .i64 (A : Nat), .int .i64 E]) ∧ Hid (NsAt W1.cell? va ns ∧ Below w.heap.size w W1)) := hid9 fun a1 c1 va vc W hW => by
    rw [hA, hE, ← hn, ← hk]
    exact (part9_any cs ns a1 va c1 vc (by omega) (by omega) W hW.2.1 hW.1).mono fun e W1 ⟨h1, h2⟩ => ⟨h1, hid9 ⟨hW.1.keep (below_keep h2), hW.2.2.trans (h2.mono hW.2.2.size)⟩⟩
  have HQ : Hid (∀ va W, NsAt W.cell? va ns ∧ Below w.heap.size w W → Calls Try.prog 11 #[.slice ca n cc, .slice na k nc] W fun e W1 => e = .returned (.tuple #[.int .i64 (A : Nat), .int .i64 E]) ∧ Hid (NsAt W1.cell? va ns ∧ Below w.heap.size w W1)) := hid9 fun va W hW => by
    rw [hA, hE]
    exact (rpart9_any cs ns ca na cc nc n k hn hk (by omega) (by omega) W (hc.keep (below_keep hW.2)) (hz.keep (below_keep hW.2))).mono fun e W1 ⟨h1, h2⟩ => ⟨h1, hid9 ⟨hW.1.keep (below_keep h2), hW.2.trans (h2.mono hW.2.size)⟩⟩
  have HI : Hid (∀ va vc W, NsAt W.cell? va ns ∧ Below w.heap.size w W → Calls Try.prog 13 #[.slice va k vc, .slice na k nc] W fun e W1 => e = .returned (.bool true) ∧ Hid (Below w.heap.size w W1)) := hid9 fun va vc W hW => (lints_any va na vc nc k k ns ns hk hk W hW.1 (hz.keep (below_keep hW.2)) (by omega) (by omega)).mono fun e W1 ⟨h1, q, h2⟩ => ⟨by rw [h1]; simp, hid9 (by rw [h2]; exact below_draws2 hW.2 q)⟩
  have HK : Hid (∀ W, Below w.heap.size w W → Calls Try.prog 8 #[] W fun e W1 => e = .returned (.bool true) ∧ Hid (Below w.heap.size w W1)) := hid9 fun W hW => (knows9_any W).mono fun e W1 ⟨h1, h2⟩ => ⟨h1, hid9 (hW.trans (h2.mono hW.size))⟩
  clear hc hz hA hE hn hk
  go_enter Try.func3, Try.ntmps3
  go_wp2_with (first
    | (go_at_call 9; refine HO.out.mono ?_; clear HO; rintro e w1 ⟨a1, c1, rfl, HS⟩)
    | (at_builtin; refine wpList_appN _ rfl _ _ 23 rfl elemN_int w1.heap.size _ 0 [] rfl (own_empty w1 3 1 w1.heap.size (Nat.le_refl _)) _ rfl k (cellsN ns) (HLz.out _ _ HS.out.2) hxl HX.out (by unfold maxLen; omega) (by omega) (by simp) ?_; intro v' w6 hr6 hs6; obtain ⟨va, vc, y6, HS2⟩ := HA.out a1 w1 v' w6 HS.out hr6 hs6; subst y6; clear hr6 hs6 HA HS HLz)
    | (go_at_call 10; refine (HP.out _ _ _ _ _ HS2.out).mono ?_; clear HP HS2; rintro e w3 ⟨rfl, HS⟩)
    | (go_at_call 11; refine (HQ.out _ _ HS.out).mono ?_; clear HQ HS; rintro e w4 ⟨rfl, HS⟩)
    | (go_at_call 12; refine (num9_any _ _).mono ?_; rintro e w9 ⟨rfl, w9e⟩; rw [w9e]; clear w9e)
    | (go_at_call 13; refine (HI.out _ _ _ HS.out).mono ?_; clear HI HS; rintro e w5 ⟨rfl, HS⟩)
    | (go_at_call 8; refine (HK.out _ HS.out).mono ?_; clear HK HS; rintro e w8 ⟨rfl, HS⟩)
    | fail)
  all_goals first | (go_ret; exact ⟨rfl, HS.out⟩) | (exfalso; omega) | (exfalso; simp_all)
end Go.Proofs.Ytodagpmcmjleaaa
