/- The laws ShapeMatches and ShapeArounds. -/
import Derived.Test.YtnlcokcpcfbdaaaDN
import Derived.Test.YtnlcokcpcfbdaaaLWays
namespace Go.Proofs.Ytnlcokcpcfbdaaa
open Go.RowKit
theorem depth_is (cs : List (Int × Int)) (a : Option Addr) (c n : Nat) (hn : cs.length = n) (_hc : n ≤ c) (bn : n ≤ 1000000000) (w : World) (h : IsAt w.cell? a cs) : Calls Try.prog 13 #[.slice a n c] w (DepthEnd cs w) := by
  subst hn
  rcases h with rfl | ⟨b, off, rfl, hh⟩
  · exact depth_any [] a c 0 0 (.inl rfl) bn w (fun j h => by cases h)
  · exact depth_any cs _ c b off (.inr rfl) bn w hh
theorem around_is (cs : List (Int × Int)) (x : Int) (a : Option Addr) (c n : Nat) (hn : cs.length = n) (_hc : n ≤ c) (bn : n ≤ 1000000000) (w : World) (h : IsAt w.cell? a cs) : Calls Try.prog 17 #[.slice a n c, .int .i64 x] w (AroundEnd cs x w) := by
  subst hn
  rcases h with rfl | ⟨b, off, rfl, hh⟩
  · exact around_any [] x a c 0 0 (.inl rfl) bn w (fun j h => by cases h)
  · exact around_any cs x _ c b off (.inr rfl) bn w hh
/-- What either Match answers: a row, a number. -/
def MRes (ms : List Int) (l : Nat) (f : Int) (w : World) (e : Ending) (w' : World) : Prop := ∃ a, e = .returned (.tuple #[.slice a l l, .int .i64 f]) ∧ NsAt w'.cell? a ms ∧ Below w.heap.size w w'
def msS (cs : List (Int × Int)) : List Int := if goodS cs = true then matchS cs else []
def fS (cs : List (Int × Int)) : Int := if goodS cs = true then 0 else 31
theorem MatchEnd.res {cs : List (Int × Int)} {w : World} {e : Ending} {w' : World} (h : MatchEnd cs w e w') : MRes (msS cs) (msS cs).length (fS cs) w e w' := by
  obtain ⟨h1, h2⟩ := h
  unfold msS fS
  by_cases hg : goodS cs = true
  · rw [if_pos hg] at h1
    obtain ⟨g, _, he, hN⟩ := h1
    rw [if_pos hg, if_pos hg]
    exact ⟨_, by rw [matchS_len]; exact he, hN.ns, h2⟩
  · rw [if_neg hg] at h1
    rw [if_neg hg, if_neg hg]
    exact ⟨_, h1, .inl rfl, h2⟩
theorem msS_le (cs : List (Int × Int)) : (msS cs).length ≤ cs.length := by
  unfold msS
  split
  · rw [matchS_len]; exact Nat.le_refl _
  · exact Nat.zero_le _
theorem ins_keep {w W : World} {a : Option Addr} {cs : List (Int × Int)} (h : IsAt w.cell? a cs) (hb : Below w.heap.size w W) : IsAt W.cell? a cs := h.keep fun a _ h => (hb.cell (World.block_lt_of_cell? w a h)).trans h
theorem ns_keep {w W : World} {a : Option Addr} {ms : List Int} (h : NsAt w.cell? a ms) (hb : Below w.heap.size w W) : NsAt W.cell? a ms := h.keep fun a _ h => (hb.cell (World.block_lt_of_cell? w a h)).trans h
theorem lints_same (a b : Option Addr) (c d l : Nat) (ms : List Int) (hl : ms.length = l) (hb : l ≤ 1000000) (w : World) (h1 : NsAt w.cell? a ms) (h2 : NsAt w.cell? b ms) : Calls Try.prog 15 #[.slice a l c, .slice b l d] w fun e w' => e = .returned (.bool true) ∧ Below w.heap.size w w' := by
  refine (lints_any a b c d l l ms ms hl hl w h1 h2 (by omega) (by omega)).mono ?_
  rintro e w' ⟨he, k, rfl⟩
  exact ⟨by rw [he]; simp, below_draws2 (Below.refl _ w) k⟩
def DepthV (cs : List (Int × Int)) : Int × Int := if goodS cs = true then (((dep cs cs.length : Nat) : Int), 0) else (0, 31)
theorem DepthEnd.res {cs : List (Int × Int)} {w : World} {e : Ending} {w' : World} (h : DepthEnd cs w e w') : e = .returned (.tuple #[.int .i64 (DepthV cs).1, .int .i64 (DepthV cs).2]) ∧ Below w.heap.size w w' := by
  obtain ⟨h1, h2⟩ := h
  refine ⟨?_, h2⟩
  rw [h1]
  unfold DepthV
  by_cases hg : goodS cs = true
  · rw [if_pos hg, if_pos hg]
  · rw [if_neg hg, if_neg hg]
set_option maxRecDepth 100000 in
set_option maxHeartbeats 1000000 in
theorem matches_any (cs : List (Int × Int)) (ca : Option Addr) (cc n : Nat) (hn : cs.length = n) (bn : n ≤ 8796093022208) (w : World) (hc : IsAt w.cell? ca cs) :
    Calls Try.prog 3 #[.slice ca n cc] w fun e w' => e = .returned (.bool true) ∧ Below w.heap.size w w' := by
  by_cases h6 : (600 : Int) < n
  · clear hc hn
    go_enter Try.func3, Try.ntmps3
    go_wp2_with (first | (go_at_call 9; refine (knows6_any _).mono ?_; rintro e w8 ⟨rfl, b8⟩) | fail)
    go_ret
    exact ⟨rfl, b8⟩
  have hO := own6_any cs ca cc n hn bn w hc
  have HN := hid6 hn
  have HC : Hid (∀ W, Below w.heap.size w W → IsAt W.cell? ca cs) := hid6 fun W hb => ins_keep hc hb
  have hnl : (msS cs).length ≤ n := by rw [← hn]; exact msS_le cs
  have M1 : Hid (∀ W a c, n ≤ c → IsAt W.cell? a cs → Calls Try.prog 11 #[.slice a n c] W (MRes (msS cs) (msS cs).length (fS cs) W)) := hid6 fun W a c h1 h2 => (match_is cs a c n hn h1 (by omega) W h2).mono fun _ _ h => h.res
  have M2 : Hid (∀ W, IsAt W.cell? ca cs → Calls Try.prog 12 #[.slice ca n cc] W (MRes (msS cs) (msS cs).length (fS cs) W)) := hid6 fun W h2 => (rmatch_any cs ca cc n hn (by omega) W h2).mono fun _ _ h => h.res
  have M3 : Hid (∀ W a c, n ≤ c → IsAt W.cell? a cs → Calls Try.prog 13 #[.slice a n c] W fun e w' => e = .returned (.tuple #[.int .i64 (DepthV cs).1, .int .i64 (DepthV cs).2]) ∧ Below W.heap.size W w') := hid6 fun W a c h1 h2 => (depth_is cs a c n hn h1 (by omega) W h2).mono fun _ _ h => h.res
  have M4 : Hid (∀ W, IsAt W.cell? ca cs → Calls Try.prog 14 #[.slice ca n cc] W fun e w' => e = .returned (.tuple #[.int .i64 (DepthV cs).1, .int .i64 (DepthV cs).2]) ∧ Below W.heap.size W w') := hid6 fun W h2 => (rdepth_any cs ca cc n hn (by omega) W h2).mono fun _ _ h => h.res
  have M5 : Hid (∀ W a b, NsAt W.cell? a (msS cs) → NsAt W.cell? b (msS cs) → Calls Try.prog 15 #[.slice a (msS cs).length (msS cs).length, .slice b (msS cs).length (msS cs).length] W fun e w' => e = .returned (.bool true) ∧ Below W.heap.size W w') := hid6 fun W a b h1 h2 => lints_same a b _ _ _ (msS cs) rfl (by omega) W h1 h2
  generalize DepthV cs = dv at M3 M4
  obtain ⟨dv1, dv2⟩ := dv
  simp only at M3 M4
  generalize fS cs = fv at M1 M2
  generalize msS cs = ms at M1 M2 M5 hnl
  obtain ⟨l, hl⟩ : ∃ l, l = ms.length := ⟨_, rfl⟩
  rw [← hl] at M1 M2 M5 hnl
  clear hc hn hl
  unfold MRes at M1 M2
  go_enter Try.func3, Try.ntmps3
  go_wp2_with (first
    | (go_at_call 10; refine hO.mono ?_; clear hO; rintro e w1 ⟨a1, c1, rfl, hc1, hr1, b1⟩; rw [HN.out] at hc1 hr1 ⊢; have I1 := hid6 (ins_row hr1 (Below.refl _ _)); have X1 := hid6 (M1.out w1 a1 c1 hc1 I1.out); clear hr1 M1)
    | (go_at_call 11; refine X1.out.mono ?_; clear X1; rintro e w2 ⟨a2, rfl, s2, b2⟩; have B2 := hid6 (b1.trans (b2.mono b1.size)); have s2 := hid6 s2; have X2 := hid6 (M2.out w2 (HC.out _ B2.out)); clear M2)
    | (go_at_call 12; refine X2.out.mono ?_; clear X2; rintro e w3 ⟨a3, rfl, s3, b3⟩; have B3 := hid6 (B2.out.trans (b3.mono B2.out.size)); have s3 := hid6 s3; have s2 := hid6 (ns_keep s2.out b3); have I3 := hid6 (ins_keep (ins_keep I1.out b2) b3); have X3 := hid6 (M3.out w3 a1 c1 hc1 I3.out); clear M3)
    | (go_at_call 13; refine X3.out.mono ?_; clear X3; rintro e w4 ⟨rfl, b4⟩; have B4 := hid6 (B3.out.trans (b4.mono B3.out.size)); have s3 := hid6 (ns_keep s3.out b4); have s2 := hid6 (ns_keep s2.out b4); have I4 := hid6 (ins_keep I3.out b4); have X4 := hid6 (M4.out w4 (HC.out _ B4.out)); clear M4)
    | (go_at_call 14; refine X4.out.mono ?_; clear X4; rintro e w5 ⟨rfl, b5⟩; have B5 := hid6 (B4.out.trans (b5.mono B4.out.size)); have s3 := hid6 (ns_keep s3.out b5); have s2 := hid6 (ns_keep s2.out b5); have I5 := hid6 (ins_keep I4.out b5); have C5 := hid6 (HC.out _ B5.out))
    | fail)
  have M6 := hid6 fun m => M5.out (w5.drewN m) a2 a3 s2.out s3.out
  clear M5
  go_loopw [12] (fun iv wr => ∃ k m : Nat, iv = .int .i64 k ∧ k ≤ n ∧ wr = w5.drewN m) (fun iv _ => n - (intOf iv).toNat)
  case atStart => exact ⟨0, 0, rfl, Nat.zero_le _, rfl⟩
  case round =>
    obtain ⟨k, m, rfl, hk, rfl⟩ := hrel
    by_cases hkn : k < n
    · have hkl : k < cs.length := by rw [HN.out]; exact hkn
      have h1 := I5.out
      have h2 := C5.out
      obtain ⟨b0, off0, rfl⟩ := is_some h1 (by omega)
      obtain ⟨b1', off1, rfl⟩ := is_some h2 (by omega)
      rcases h1 with h1 | ⟨_, _, e1, h1⟩
      · rw [h1] at hkl; cases hkl
      rcases h2 with h2 | ⟨_, _, e2, h2⟩
      · rw [h2] at hkl; cases hkl
      cases e1
      cases e2
      obtain ⟨c0, c1'⟩ := h1 k hkl
      obtain ⟨d0, d1⟩ := h2 k hkl
      generalize cs[k] = x at c0 c1' d0 d1
      obtain ⟨x0, x1⟩ := x
      simp only at c0 c1' d0 d1
      clear h1 h2 hkl
      go_wp2
      try (go_quiet (fail); go_wp2)
      refine ⟨⟨k + 1, _, by go_num, by omega, rfl⟩, by simp [intOf]; omega⟩
    · have hkn : k = n := by omega
      subst hkn
      have M7 := hid6 (M6.out m)
      have B6 := hid6 (below_draws2 B5.out m)
      clear M6
      generalize w5.drewN m = w6 at M7 B6 ⊢
      go_wp2_with (first
        | (go_at_call 15; refine M7.out.mono ?_; clear M7; rintro e w7 ⟨rfl, b7⟩; have B7 := hid6 (B6.out.trans (b7.mono B6.out.size)))
        | (go_at_call 16; refine (num6_any _ _).mono ?_; rintro e w9 ⟨rfl, w9e⟩; rw [w9e]; clear w9e)
        | (go_at_call 9; refine (knows6_any _).mono ?_; rintro e w8 ⟨rfl, b8⟩)
        | fail)
      go_ret
      exact ⟨rfl, B7.out.trans (b8.mono B7.out.size)⟩
def arV (cs : List (Int × Int)) (x : Int) : List Int := if goodS cs = true then arS cs x cs.length else []
theorem arV_le (cs : List (Int × Int)) (x : Int) (h : cs.length ≤ 600) : (arV cs x).length ≤ 600 := by
  unfold arV arS
  split
  · split
    · rw [List.length_map, mst_stk]
      have := stk_len (op := opA cs) x.toNat
      omega
    · exact Nat.zero_le _
  · exact Nat.zero_le _
set_option maxRecDepth 100000 in
set_option maxHeartbeats 1000000 in
theorem arounds_any (cs : List (Int × Int)) (ca : Option Addr) (cc n : Nat) (hn : cs.length = n) (bn : n ≤ 8796093022208) (x : Int) (w : World) (hc : IsAt w.cell? ca cs) :
    Calls Try.prog 4 #[.slice ca n cc, .int .i64 x] w fun e w' => e = .returned (.bool true) ∧ Below w.heap.size w w' := by
  by_cases h6 : (600 : Int) < n
  · clear hc hn
    go_enter Try.func4, Try.ntmps4
    go_wp2_with (first | (go_at_call 9; refine (knows6_any _).mono ?_; rintro e w8 ⟨rfl, b8⟩) | fail)
    go_ret
    exact ⟨rfl, b8⟩
  have hO := own6_any cs ca cc n hn bn w hc
  have HN := hid6 hn
  have HC : Hid (∀ W, Below w.heap.size w W → IsAt W.cell? ca cs) := hid6 fun W hb => ins_keep hc hb
  have hnl : (arV cs x).length ≤ 600 := arV_le cs x (by omega)
  have M1 : Hid (∀ W a c, n ≤ c → IsAt W.cell? a cs → Calls Try.prog 17 #[.slice a n c, .int .i64 x] W fun e w' => ∃ a c, e = .returned (.slice a (arV cs x).length c) ∧ NsAt w'.cell? a (arV cs x) ∧ Below W.heap.size W w') := hid6 fun W a c h1 h2 => around_is cs x a c n hn h1 (by omega) W h2
  have M2 : Hid (∀ W, IsAt W.cell? ca cs → Calls Try.prog 18 #[.slice ca n cc, .int .i64 x] W fun e w' => ∃ a c, e = .returned (.slice a (arV cs x).length c) ∧ NsAt w'.cell? a (arV cs x) ∧ Below W.heap.size W w') := hid6 fun W h2 => raround_any cs ca cc n hn (by omega) x W h2
  have M5 : Hid (∀ W a b c d, NsAt W.cell? a (arV cs x) → NsAt W.cell? b (arV cs x) → Calls Try.prog 15 #[.slice a (arV cs x).length c, .slice b (arV cs x).length d] W fun e w' => e = .returned (.bool true) ∧ Below W.heap.size W w') := hid6 fun W a b c d h1 h2 => lints_same a b _ _ _ (arV cs x) rfl (by omega) W h1 h2
  generalize arV cs x = ms at M1 M2 M5 hnl
  obtain ⟨l, hl⟩ : ∃ l, l = ms.length := ⟨_, rfl⟩
  rw [← hl] at M1 M2 M5 hnl
  clear hc hn hl
  go_enter Try.func4, Try.ntmps4
  go_wp2_with (first
    | (go_at_call 10; refine hO.mono ?_; clear hO; rintro e w1 ⟨a1, c1, rfl, hc1, hr1, b1⟩; rw [HN.out] at hc1 hr1 ⊢; have I1 := hid6 (ins_row hr1 (Below.refl _ _)); have X1 := hid6 (M1.out w1 a1 c1 hc1 I1.out); clear hr1 M1)
    | (go_at_call 17; refine X1.out.mono ?_; clear X1; rintro e w2 ⟨a2, c2, rfl, s2, b2⟩; have B2 := hid6 (b1.trans (b2.mono b1.size)); have s2 := hid6 s2; have X2 := hid6 (M2.out w2 (HC.out _ B2.out)); clear M2)
    | (go_at_call 18; refine X2.out.mono ?_; clear X2; rintro e w3 ⟨a3, c3, rfl, s3, b3⟩; have B3 := hid6 (B2.out.trans (b3.mono B2.out.size)); have X3 := hid6 (M5.out w3 a2 a3 c2 c3 (ns_keep s2.out b3) s3); clear M5)
    | (go_at_call 15; refine X3.out.mono ?_; clear X3; rintro e w7 ⟨rfl, b7⟩; have B7 := hid6 (B3.out.trans (b7.mono B3.out.size)))
    | (go_at_call 9; refine (knows6_any _).mono ?_; rintro e w8 ⟨rfl, b8⟩)
    | fail)
  go_ret
  exact ⟨rfl, B7.out.trans (b8.mono B7.out.size)⟩
end Go.Proofs.Ytnlcokcpcfbdaaa
