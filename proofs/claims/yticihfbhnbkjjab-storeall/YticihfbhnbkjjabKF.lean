/- Layer 11: what the law knows. -/
import Derived.Test.YticihfbhnbkjjabQZ
namespace Go.Proofs.Yticihfbhnbkjjab
open Go.RowKit
/-- A store that was made since w0. -/
def KnS (sb : Nat) (L : Kvs) (w0 w : World) : Prop := ∃ tb g, StAt sb tb g L w ∧ Below w0.heap.size w0 w ∧ w0.heap.size ≤ sb ∧ w0.heap.size ≤ tb ∧ w0.heap.size ≤ g
/-- And its transaction. -/
def KnX (sb xb : Nat) (L M : Kvs) (w0 w : World) : Prop := ∃ b : TxB, b.xb = xb ∧ SX sb b L M 0 w ∧ (∀ i ∈ b.l, w0.heap.size ≤ i) ∧ w0.heap.size ≤ sb ∧ Below w0.heap.size w0 w
theorem kn_new (w : World) : Calls Try.prog 17 #[] w fun e w1 => ∃ sb, e = .returned (.pointer (some ⟨sb, 0, none⟩)) ∧ Hid (KnS sb [] w w1) := by
  refine (new_any w).mono ?_
  rintro e w1 ⟨sb, rfl, H⟩
  obtain ⟨tb, g, h1, h2, h3, h4, h5⟩ := H.out
  exact ⟨sb, rfl, hidb ⟨tb, g, h1, h5, h2, h3, h4⟩⟩
theorem kn_put {sb : Nat} {L : Kvs} {w0 w : World} (h : KnS sb L w0 w) (k v : Bt) (hk : k.length ≤ 9223372036854775807) (hv : v.length ≤ 9223372036854775807) (hL : L.length ≤ 512) : Calls Try.prog 18 #[.pointer (some ⟨sb, 0, none⟩), sv k, sv v] w fun e w1 => e = .returned (.int .i64 (putE L k v)) ∧ Hid (KnS sb (putS L k v) w0 w1) := by
  obtain ⟨tb, g, h1, h2, h3, h4, h5⟩ := h
  refine (sput_any sb tb g L w k v h1 hk hv hL).mono ?_
  rintro e w1 ⟨rfl, H⟩
  obtain ⟨g', q1, q2, q3⟩ := H.out
  have hs := h2.size
  exact ⟨rfl, hidb ⟨tb, g', q1, h2.trans (q3.toBelow hs (by rintro i (e | e) <;> omega)), h3, h4, by rcases q2 with e | e <;> omega⟩⟩
theorem kn_next {sb : Nat} {L : Kvs} {w0 w : World} (h : KnS sb L w0 w) (k : Bt) : Calls Try.prog 22 #[.pointer (some ⟨sb, 0, none⟩), sv k] w fun e w1 => e = .returned (.tuple #[sv ((nextL L k).getD []), .bool (nextL L k).isSome]) ∧ Hid (KnS sb L w0 w1) := by
  obtain ⟨tb, g, h1, h2, h3, h4, h5⟩ := h
  refine (snext_any sb tb g L w k h1).mono ?_
  rintro e w1 ⟨rfl, m, rfl⟩
  exact ⟨rfl, hidb ⟨tb, g, h1.drewN m, below_drewN h2 m, h3, h4, h5⟩⟩
theorem kn_begin {sb : Nat} {L : Kvs} {w0 w : World} (h : KnS sb L w0 w) : Calls Try.prog 6 #[.pointer (some ⟨sb, 0, none⟩)] w fun e w1 => ∃ xb, e = .returned (.pointer (some ⟨xb, 0, none⟩)) ∧ Hid (KnX sb xb L L w0 w1) := by
  obtain ⟨tb, g, h1, h2, h3, h4, h5⟩ := h
  refine (begin_i sb tb g L w h1).mono ?_
  rintro e w1 ⟨xb, rfl, H⟩
  obtain ⟨b, e1, e2, e3, q1, q2, q3⟩ := H.out
  have hs := h2.size
  refine ⟨xb, rfl, hidb ⟨b, e1, q1, fun i hi => ?_, h3, h2.trans (q3.mono hs)⟩⟩
  rcases q2 i hi with e | e | e <;> omega
theorem KnX.of {sb xb : Nat} {L' M' : Kvs} {w0 w w' : World} {b : TxB} {v : Value} {e : Ending} (h3 : ∀ i ∈ b.l, w0.heap.size ≤ i) (h4 : w0.heap.size ≤ sb) (h5 : Below w0.heap.size w0 w) (e1 : b.xb = xb) (hx : SXEnd sb b L' M' 0 v w e w') : e = .returned v ∧ Hid (KnX sb xb L' M' w0 w') := by
  obtain ⟨r, H⟩ := hx
  obtain ⟨b', q1, q2, q3, q4, q5⟩ := H.out
  have hs := h5.size
  refine ⟨r, hidb ⟨b', q2.trans e1, q1, fun i hi => ?_, h4, h5.trans (q5.toBelow hs h3)⟩⟩
  rcases q4 i hi with x | x
  · exact h3 i x
  · omega
theorem kn_save {sb xb : Nat} {L M : Kvs} {w0 w : World} (h : KnX sb xb L M w0 w) (k v : Bt) (hk : k.length ≤ 9223372036854775807) (hv : v.length ≤ 9223372036854775807) (hL : L.length ≤ 512) (hM : M.length ≤ 512) : Calls Try.prog 10 #[.pointer (some ⟨xb, 0, none⟩), sv k, sv v] w fun e w1 => e = .returned (.int .i64 (putE M k v)) ∧ Hid (KnX sb xb L (putS M k v) w0 w1) := by
  obtain ⟨b, e1, h2, h3, h4, h5⟩ := h
  subst e1
  exact (save_i sb b L M 0 w k v h2 hk hv hL hM).mono fun e w1 hx => KnX.of h3 h4 h5 rfl hx
theorem kn_commit {sb xb : Nat} {L M : Kvs} {w0 w : World} (h : KnX sb xb L M w0 w) (hL : L.length ≤ 512) (hM : M.length ≤ 512) (hsm : ∀ x ∈ M, x.1.length ≤ 281474976710656 ∧ x.2.length ≤ 281474976710656) : Calls Try.prog 14 #[.pointer (some ⟨xb, 0, none⟩)] w fun e w1 => e = .returned (.int .i64 0) ∧ Hid (KnX sb xb M M w0 w1) := by
  obtain ⟨b, e1, h2, h3, h4, h5⟩ := h
  subst e1
  exact (commit_i sb b L M 0 w h2 hL hM (by decide) hsm).mono fun e w1 hx => KnX.of h3 h4 h5 rfl hx
theorem kn_get {sb xb : Nat} {L M : Kvs} {w0 w : World} (h : KnX sb xb L M w0 w) (k : Bt) : Calls Try.prog 23 #[.pointer (some ⟨sb, 0, none⟩), sv k] w fun e w1 => e = .returned (.tuple #[sv ((getL L k).getD []), .bool (getL L k).isSome]) ∧ Hid (KnX sb xb L M w0 w1) := by
  obtain ⟨b, e1, h2, h3, h4, h5⟩ := h
  refine (sget_any sb _ _ L w k h2.st).mono ?_
  rintro e w1 ⟨rfl, m, rfl⟩
  exact ⟨rfl, hidb ⟨b, e1, h2.drewN m, h3, h4, below_drewN h5 m⟩⟩
theorem kn_len {sb xb : Nat} {L M : Kvs} {w0 w : World} (h : KnX sb xb L M w0 w) : Calls Try.prog 24 #[.pointer (some ⟨sb, 0, none⟩)] w fun e w1 => e = .returned (.int .i64 (L.length : Nat)) ∧ w1 = w := by
  obtain ⟨b, e1, h2, h3, h4, h5⟩ := h
  exact slen_any sb _ _ L w h2.st
theorem num11_any (x : Int) (w : World) : Calls Try.prog 13 #[.int .i64 x] w fun e w' => e = .returned (.int .i64 x) ∧ w' = w := by
  go_enter Try.func13, Try.ntmps13
  go_wp2
  go_ret
  exact ⟨rfl, rfl⟩
def kn1 : Kvs := [([98], [49])]
def kn2 : Kvs := [([97], [50]), ([98], [49])]
def kn3 : Kvs := [([97], [50]), ([98], [49]), ([99], [51])]
set_option maxRecDepth 100000 in
set_option maxHeartbeats 1000000 in
theorem knows11_any (w : World) : Calls Try.prog 7 #[] w fun e w' => e = .returned (.bool true) ∧ Below w.heap.size w w' := by
  have H0 := hidb (kn_new w)
  have H1 : Hid (∀ sb w1, KnS sb [] w w1 → Calls Try.prog 18 #[.pointer (some ⟨sb, 0, none⟩), sv [98], sv [49]] w1 fun e w2 => e = .returned (.int .i64 0) ∧ Hid (KnS sb kn1 w w2)) := hidb fun sb w1 h => kn_put h [98] [49] (by decide) (by decide) (by decide)
  have H2 : Hid (∀ sb w1, KnS sb kn1 w w1 → Calls Try.prog 18 #[.pointer (some ⟨sb, 0, none⟩), sv [97], sv [50]] w1 fun e w2 => e = .returned (.int .i64 0) ∧ Hid (KnS sb kn2 w w2)) := hidb fun sb w1 h => kn_put h [97] [50] (by decide) (by decide) (by decide)
  have H3 : Hid (∀ sb w1, KnS sb kn2 w w1 → Calls Try.prog 22 #[.pointer (some ⟨sb, 0, none⟩), sv []] w1 fun e w2 => e = .returned (.tuple #[sv [97], .bool true]) ∧ Hid (KnS sb kn2 w w2)) := hidb fun sb w1 h => kn_next h []
  have H4 : Hid (∀ sb w1, KnS sb kn2 w w1 → Calls Try.prog 6 #[.pointer (some ⟨sb, 0, none⟩)] w1 fun e w2 => ∃ xb, e = .returned (.pointer (some ⟨xb, 0, none⟩)) ∧ Hid (KnX sb xb kn2 kn2 w w2)) := hidb fun sb w1 h => kn_begin h
  have H5 : Hid (∀ sb xb w1, KnX sb xb kn2 kn2 w w1 → Calls Try.prog 10 #[.pointer (some ⟨xb, 0, none⟩), sv [99], sv [51]] w1 fun e w2 => e = .returned (.int .i64 0) ∧ Hid (KnX sb xb kn2 kn3 w w2)) := hidb fun sb xb w1 h => kn_save h [99] [51] (by decide) (by decide) (by decide) (by decide)
  have H6 : Hid (∀ sb xb w1, KnX sb xb kn2 kn3 w w1 → Calls Try.prog 23 #[.pointer (some ⟨sb, 0, none⟩), sv [99]] w1 fun e w2 => e = .returned (.tuple #[sv [], .bool false]) ∧ Hid (KnX sb xb kn2 kn3 w w2)) := hidb fun sb xb w1 h => kn_get h [99]
  have H7 : Hid (∀ sb xb w1, KnX sb xb kn2 kn3 w w1 → Calls Try.prog 14 #[.pointer (some ⟨xb, 0, none⟩)] w1 fun e w2 => e = .returned (.int .i64 0) ∧ Hid (KnX sb xb kn3 kn3 w w2)) := hidb fun sb xb w1 h => kn_commit h (by decide) (by decide) (by decide)
  have H8 : Hid (∀ sb xb w1, KnX sb xb kn3 kn3 w w1 → Calls Try.prog 23 #[.pointer (some ⟨sb, 0, none⟩), sv [99]] w1 fun e w2 => e = .returned (.tuple #[sv [51], .bool true]) ∧ Hid (KnX sb xb kn3 kn3 w w2)) := hidb fun sb xb w1 h => kn_get h [99]
  have H9 : Hid (∀ sb xb w1, KnX sb xb kn3 kn3 w w1 → Calls Try.prog 24 #[.pointer (some ⟨sb, 0, none⟩)] w1 fun e w2 => e = .returned (.int .i64 3) ∧ w2 = w1) := hidb fun sb xb w1 h => kn_len h
  have HN := hidb num11_any
  go_enter Try.func7, Try.ntmps7
  go_wp2_with (first
    | (go_at_call 17; refine H0.out.mono ?_; clear H0; rintro e w1 ⟨sb, rfl, K1⟩; replace H1 := hidb (H1.out sb w1 K1.out); clear K1)
    | (go_at_call 18; refine H1.out.mono ?_; clear H1; rintro e w2 ⟨rfl, K2⟩; replace H2 := hidb (H2.out sb w2 K2.out); clear K2)
    | (go_at_call 18; refine H2.out.mono ?_; clear H2; rintro e w3 ⟨rfl, K3⟩; replace H3 := hidb (H3.out sb w3 K3.out); clear K3)
    | (go_at_call 22; refine H3.out.mono ?_; clear H3; rintro e w4 ⟨rfl, K4⟩; replace H4 := hidb (H4.out sb w4 K4.out); clear K4)
    | (go_at_call 6; refine H4.out.mono ?_; clear H4; rintro e w5 ⟨xb, rfl, K5⟩; replace H5 := hidb (H5.out sb xb w5 K5.out); clear K5)
    | (go_at_call 10; refine H5.out.mono ?_; clear H5; rintro e w6 ⟨rfl, K6⟩; replace H6 := hidb (H6.out sb xb w6 K6.out); clear K6)
    | (go_at_call 23; refine H6.out.mono ?_; clear H6; rintro e w7 ⟨rfl, K7⟩; replace H7 := hidb (H7.out sb xb w7 K7.out); clear K7)
    | (go_at_call 14; refine H7.out.mono ?_; clear H7; rintro e w8 ⟨rfl, K8⟩; replace H8 := hidb (H8.out sb xb w8 K8.out); clear K8)
    | (go_at_call 23; refine H8.out.mono ?_; clear H8; rintro e w9 ⟨rfl, K9⟩; replace H9 := hidb (H9.out sb xb w9 K9.out))
    | (go_at_call 13; refine (HN.out _ _).mono ?_; rintro e wn ⟨rfl, rfl⟩)
    | (go_at_call 24; refine H9.out.mono ?_; clear H9; rintro e wl ⟨rfl, rfl⟩)
    | fail)
  go_ret
  obtain ⟨b, _, _, _, _, h5⟩ := K9.out
  exact ⟨rfl, h5⟩
end Go.Proofs.Yticihfbhnbkjjab
