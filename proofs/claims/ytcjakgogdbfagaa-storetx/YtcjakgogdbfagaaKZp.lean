/- Layer 11: the calls of StoreTx on both sides. As OBase, for the rows of layer 11. -/
import Derived.Test.YtcjakgogdbfagaaKZe
import Derived.Test.YtcjakgogdbfagaaRIg
import Derived.Test.YtcjakgogdbfagaaRows
import Derived.Test.YtcjakgogdbfagaaKF
import Derived.ProofKit
import Derived.OpenShut
import Derived.Deep.DeepHandedRow
import Derived.Lib.LaidTab
import Derived.Lib.SmallJoins
import Derived.SizedLaws
import Derived.Deep.SlicePairs
import Derived.ChangeMaps5
namespace Go.Proofs.Ytcjakgogdbfagaa
open Go.RowKit
theorem drewN_below (w : World) (m : Nat) : Below w.heap.size w (w.drewN m) := below_drewN (Below.refl _ w) m
section
variable {Z : Nat} {c : Array Value} {s x q r mb : Nat} {M N Md Nd : Kvs} {d : Nat} {w0 w : World}
theorem tj_save (j : TJ Z c s x q r mb M N Md Nd d w0 w) (hM : MOk M) (hN : MOk N) (k v : Bt) (hk : k.length ≤ 9223372036854775807) (hv : v.length ≤ 9223372036854775807) : Calls Try.prog 9 #[.pointer (some ⟨x, 0, none⟩), sv k, sv v] w fun e w1 => e = .returned (.int .i64 (putE N k v)) ∧ Hid (TJ Z c s x q r mb M (putS N k v) Md Nd d w0 w1) := by
  obtain ⟨⟨b, rfl, h2, h3, h4, h5⟩, t, hz⟩ := j
  exact (save_i s b M N d w k v h2 hk hv hM.len hN.len).mono fun e w1 hx => TJ.ofX h2 h3 h4 h5 rfl t hz hx
theorem tj_wipe (j : TJ Z c s x q r mb M N Md Nd d w0 w) (hM : MOk M) (hN : MOk N) (k : Bt) (hk : k.length ≤ 9223372036854775807) (hd : (d + 2) * 46 ≤ 140737488355328) : Calls Try.prog 11 #[.pointer (some ⟨x, 0, none⟩), sv k] w fun e w1 => e = .returned (.int .i64 (wipeE k)) ∧ Hid (TJ Z c s x q r mb M (wipeS N k) Md Nd (d + 1) w0 w1) := by
  obtain ⟨⟨b, rfl, h2, h3, h4, h5⟩, t, hz⟩ := j
  exact (wipe_i s b M N d w k h2 hk hM.len hN.len hd).mono fun e w1 hx => TJ.ofX h2 h3 h4 h5 rfl t hz hx
theorem tj_commit (j : TJ Z c s x q r mb M N Md Nd d w0 w) (hM : MOk M) (hN : MOk N) (hd : (d + 2000) * 46 ≤ 140737488355328) : Calls Try.prog 17 #[.pointer (some ⟨x, 0, none⟩)] w fun e w1 => e = .returned (.int .i64 0) ∧ Hid (TJ Z c s x q r mb N N Md Nd 0 w0 w1) := by
  obtain ⟨⟨b, rfl, h2, h3, h4, h5⟩, t, hz⟩ := j
  exact (commit_i s b M N d w h2 hM.len hN.len hd hN.big).mono fun e w1 hx => TJ.ofX h2 h3 h4 h5 rfl t hz hx
theorem tj_load (j : TJ Z c s x q r mb M N Md Nd d w0 w) (k : Bt) : Calls Try.prog 13 #[.pointer (some ⟨x, 0, none⟩), sv k] w fun e w1 => e = .returned (.tuple #[sv ((getL N k).getD []), .bool (getL N k).isSome]) ∧ Hid (TJ Z c s x q r mb M N Md Nd d w0 w1) := by
  refine (ax_load j.1 k).mono ?_
  rintro e w1 ⟨e1, m, rfl⟩
  exact ⟨e1, hidb (j.below (drewN_below w m))⟩
theorem tj_next (j : TJ Z c s x q r mb M N Md Nd d w0 w) (k : Bt) : Calls Try.prog 15 #[.pointer (some ⟨x, 0, none⟩), sv k] w fun e w1 => e = .returned (.tuple #[sv ((nextL N k).getD []), .bool (nextL N k).isSome]) ∧ Hid (TJ Z c s x q r mb M N Md Nd d w0 w1) := by
  refine (ax_next j.1 k).mono ?_
  rintro e w1 ⟨e1, m, rfl⟩
  exact ⟨e1, hidb (j.below (drewN_below w m))⟩
theorem tj_rput (j : TJ Z c s x q r mb M N Md Nd d w0 w) (hN : MOk Nd) (k v : Bt) (hk : k.length ≤ 9223372036854775807) (hv : v.length ≤ 9223372036854775807) : Calls Try.prog 10 #[.pointer (some ⟨mb, 0, none⟩), sv k, sv v] w fun e w1 => e = .returned (.int .i64 (putE Nd k v)) ∧ Hid (TJ Z c s x q r mb M N Md (putS Nd k v) d w0 w1) := by
  obtain ⟨h1, ⟨v1, v2, t⟩, hz⟩ := j
  refine (rput_any mb v2 Nd w k v t.r2 hN.srt hk hv hN.len).mono ?_
  rintro e w1 ⟨rfl, H⟩
  exact ⟨rfl, hidb (TJ.ofM h1 t hz H.out)⟩
theorem tj_rwipe (j : TJ Z c s x q r mb M N Md Nd d w0 w) (hN : MOk Nd) (k : Bt) (hk : k.length ≤ 9223372036854775807) : Calls Try.prog 12 #[.pointer (some ⟨q, 0, none⟩), sv k] w fun e w1 => e = .returned (.int .i64 (wipeE k)) ∧ Hid (TJ Z c s x q r mb M N Md (wipeS Nd k) d w0 w1) := by
  obtain ⟨h1, ⟨v1, v2, t⟩, hz⟩ := j
  refine (rwipe11 q r mb v2 Nd w k t.tx t.r2 hN.srt hN.len hk).mono ?_
  rintro e w1 ⟨rfl, H⟩
  exact ⟨rfl, hidb (TJ.ofM h1 t hz H.out)⟩
theorem tj_rcommit (j : TJ Z c s x q r mb M N Md Nd d w0 w) (hN : MOk Nd) : Calls Try.prog 18 #[.pointer (some ⟨q, 0, none⟩)] w fun e w1 => e = .returned (.int .i64 0) ∧ Hid (TJ Z c s x q r mb M N Nd Nd d w0 w1) := by
  obtain ⟨h1, ⟨v1, v2, t⟩, hz⟩ := j
  have hl := hN.len
  refine (rcommit11 q r mb v1 v2 Md Nd w t.tx t.r1 t.r2 (by omega) t.ne).mono ?_
  rintro e w1 ⟨rfl, H⟩
  exact ⟨rfl, hidb (TJ.ofC h1 t hz H.out)⟩
theorem tj_rget (j : TJ Z c s x q r mb M N Md Nd d w0 w) (hN : MOk Nd) (k : Bt) : Calls Try.prog 14 #[.pointer (some ⟨mb, 0, none⟩), sv k] w fun e w1 => e = .returned (.tuple #[sv ((getL Nd k).getD []), .bool (getL Nd k).isSome]) ∧ Hid (TJ Z c s x q r mb M N Md Nd d w0 w1) := by
  obtain ⟨v1, v2, t⟩ := j.2.1
  have hl := hN.len
  refine (rget_any mb v2 Nd w k t.r2 hN.srt (by omega)).mono ?_
  rintro e w1 ⟨e1, m, rfl⟩
  exact ⟨e1, hidb (j.below (drewN_below w m))⟩
theorem tj_rnext (j : TJ Z c s x q r mb M N Md Nd d w0 w) (hN : MOk Nd) (k : Bt) : Calls Try.prog 16 #[.pointer (some ⟨mb, 0, none⟩), sv k] w fun e w1 => e = .returned (.tuple #[sv ((nextL Nd k).getD []), .bool (nextL Nd k).isSome]) ∧ Hid (TJ Z c s x q r mb M N Md Nd d w0 w1) := by
  obtain ⟨v1, v2, t⟩ := j.2.1
  have hl := hN.len
  refine (rnext_any mb v2 Nd w k t.r2 hN.srt (by omega)).mono ?_
  rintro e w1 ⟨e1, m, rfl⟩
  exact ⟨e1, hidb (j.below (drewN_below w m))⟩
theorem tj_changes (j : TJ Z c s x q r mb M N M N d w0 w) (hN : MOk N) (hd : (d + 1000) * 46 ≤ 140737488355328) : Calls Try.prog 20 #[.pointer (some ⟨x, 0, none⟩)] w fun e w1 => ∃ v, e = .returned v ∧ (∃ va n vc, v = .slice va n vc ∧ PRow va n vc (chgD M N (unA N M)) w1) ∧ Below w.heap.size w w1 := by
  refine (ax_changes j.1 hN hd).mono ?_
  rintro e w1 ⟨va, n, vc, rfl, H⟩
  obtain ⟨C, hD, _, hr, hb⟩ := H.out
  have hC : C = chgD M N (unA N M) := kvs_ext hD.srt (chgD_difs hN.srt).srt fun k => by rw [hD.get, (chgD_difs (M := M) hN.srt).get]
  rw [hC] at hr
  exact ⟨_, rfl, ⟨va, n, vc, rfl, hr⟩, hb⟩
theorem tj_rchanges (j : TJ Z c s x q r mb M N M N d w0 w) (hM : MOk M) (hN : MOk N) : Calls Try.prog 21 #[.pointer (some ⟨q, 0, none⟩)] w fun e w1 => ∃ v, e = .returned v ∧ (∃ va n vc, v = .slice va n vc ∧ DRow va n vc (chgD M N (unA N M)) w1) ∧ Below w.heap.size w w1 := by
  obtain ⟨v1, v2, t⟩ := j.2.1
  refine (rchanges11 q r mb v1 v2 M N w t.tx t.r1 t.r2 hM.srt hN.srt hM.len hN.len).mono ?_
  rintro e w1 ⟨v, rfl, hr, hb⟩
  obtain ⟨va, vc, rfl, _⟩ := row_form hr
  exact ⟨_, rfl, ⟨va, _, vc, rfl, rfl, _, hr⟩, hb⟩
theorem chgD_len {M N : Kvs} (hM : MOk M) (hN : MOk N) : (chgD M N (unA N M)).length ≤ 1000000 := by
  have h1 := List.length_filter_le (fun x : Bt × Bt => difB M N x.1) (unA N M)
  have h2 := unA_len M hN.srt
  have h3 := hM.len
  have h4 := hN.len
  unfold chgD
  omega
end
/-- A slice of these bytes. -/
def Cq (XB : List UInt8) (W : World) (v : Value) : Prop := ∃ ao n c, v = .slice ao n c ∧ n = XB.length ∧ Bs W ao XB
theorem Cq.below {XB : List UInt8} {W W' : World} {v : Value} (h : Cq XB W v) (k : Below W.heap.size W W') : Cq XB W' v := by
  obtain ⟨ao, n, c, h1, h2, h3⟩ := h
  exact ⟨ao, n, c, h1, h2, h3.keep (below_keep k)⟩
theorem Cq.run {XB : List UInt8} {W : World} {ao : Option Addr} {n c : Nat} (h : Cq XB W (.slice ao n c)) : (convert 51 9 (.slice ao n c)).run Try.prog W = .ok (sv XB) W := by
  obtain ⟨a, n', c', e, h2, h3⟩ := h
  cases e
  subst h2
  exact run_str h3 _
section
variable {Z : Nat} {c : Array Value} {s x q r mb : Nat} {M N Md Nd : Kvs} {d : Nat} {w0 w : World}
theorem tj_bytes (j : TJ Z c s x q r mb M N M N d w0 w) (hM : MOk M) : Calls Try.prog 22 #[.pointer (some ⟨s, 0, none⟩)] w fun e w1 => ∃ v, e = .returned v ∧ Cq (stB M) w1 v ∧ Below w.heap.size w w1 := by
  obtain ⟨tb, g, h0⟩ := j.1.st
  refine (bytes_w s tb g M w h0 hM.len hM.small).mono ?_
  rintro e w1 ⟨qa, e1, hO, b1⟩
  obtain ⟨ao, cap, e2, _, _, hB, _⟩ := Own.bs hO
  exact ⟨_, e1, ⟨_, _, _, rfl, rfl, by injection e2 with e2; rw [e2]; exact hB⟩, b1⟩
theorem tj_rbytes (j : TJ Z c s x q r mb M N M N d w0 w) (hM : MOk M) : Calls Try.prog 23 #[.pointer (some ⟨r, 0, none⟩)] w fun e w1 => ∃ v, e = .returned v ∧ Cq (stB M) w1 v ∧ Below w.heap.size w w1 := by
  obtain ⟨v1, v2, t⟩ := j.2.1
  refine (rbytes_any r v1 M w t.r1 hM.len hM.small).mono ?_
  rintro e w2 ⟨v2, rfl, o2, b2⟩
  obtain ⟨qb, cb, rfl, _, _, B2, _⟩ := Own.bs o2
  exact ⟨_, rfl, ⟨_, _, _, rfl, rfl, B2⟩, b2⟩
end
/-- What each operation of the law's last region leaves. -/
def Pt (T : Nat → Value) (C : Kvs) (XB : List UInt8) (i : Nat) (v : Value) (W : World) : Prop :=
  (i = 4 → ∃ va n vc, v = .slice va n vc ∧ PRow va n vc C W) ∧ (i = 6 → ∃ va n vc, v = .slice va n vc ∧ DRow va n vc C W) ∧ (i = 12 ∨ i = 15 → ∃ ao n c, v = .slice ao n c ∧ Cq XB W (.slice ao n c)) ∧ (i ≠ 4 → i ≠ 6 → i ≠ 12 → i ≠ 15 → v = T i)
section
variable {T : Nat → Value} {C : Kvs} {XB : List UInt8} {i : Nat} {v : Value} {W W' : World}
theorem Pt.t (h4 : i ≠ 4 ∧ i ≠ 6 ∧ i ≠ 12 ∧ i ≠ 15) (h : v = T i) : Pt T C XB i v W := ⟨fun e => absurd e h4.1, fun e => absurd e h4.2.1, fun e => by rcases e with e | e; exact absurd e h4.2.2.1; exact absurd e h4.2.2.2, fun _ _ _ _ => h⟩
theorem Pt.c (hi : i = 12 ∨ i = 15) (h : Cq XB W v) : Pt T C XB i v W := ⟨fun e => by omega, fun e => by omega, fun _ => by
  obtain ⟨ao, n, c, rfl, h2⟩ := h
  exact ⟨ao, n, c, rfl, ao, n, c, rfl, h2⟩, fun _ _ h12 h15 => by rcases hi with e | e; exact absurd e h12; exact absurd e h15⟩
theorem Pt.p (hi : i = 4) (h : ∃ va n vc, v = .slice va n vc ∧ PRow va n vc C W) : Pt T C XB i v W := ⟨fun _ => h, fun e => by omega, fun e => by omega, fun h4 _ _ _ => absurd hi h4⟩
theorem Pt.d (hi : i = 6) (h : ∃ va n vc, v = .slice va n vc ∧ DRow va n vc C W) : Pt T C XB i v W := ⟨fun e => by omega, fun _ => h, fun e => by omega, fun _ h6 _ _ => absurd hi h6⟩
theorem Pt.below (h : Pt T C XB i v W) (k : Below W.heap.size W W') : Pt T C XB i v W' := by
  obtain ⟨h1, h2, h3, h4⟩ := h
  refine ⟨fun e => ?_, fun e => ?_, fun e => ?_, h4⟩
  · obtain ⟨va, n, vc, x, y⟩ := h1 e; exact ⟨va, n, vc, x, y.below k⟩
  · obtain ⟨va, n, vc, x, y⟩ := h2 e; exact ⟨va, n, vc, x, y.below k⟩
  · obtain ⟨va, n, vc, x, y⟩ := h3 e; exact ⟨va, n, vc, x, y.below k⟩
end
end Go.Proofs.Ytcjakgogdbfagaa
namespace Go.Proofs.Ytcjakgogdbfagaa
set_option maxRecDepth 100000
open Go.ChangeShapes Go.WideShapes Go.ChangeAt Go.RowKit

theorem own : ownKnob Try.prog.godebug = none := by kernel_rfl
theorem laidOut : laidOutB Try.prog = true := by kernel_rfl
/-- A world for the witness: the settled one. -/
noncomputable def laidWorld (os : Os) : World := World.holding Try.prog os ⟨#[], #[], []⟩
theorem laid_met (os : Os) (args : Array Value) : laidMet Try.prog [] ((laidWorld os).forCall (fun _ _ => 0) ⟨#[], args, []⟩).memory :=
  laidMet_of_run' 20 (by kernel_rfl) (by kernel_rfl)
theorem int_wf {x : Int} (h : (Lit.int .i64 x).wf = true) : -9223372036854775808 ≤ x ∧ x ≤ 9223372036854775807 := by
  have h1 : IntKind.i64.min = -9223372036854775808 := rfl
  have h2 : IntKind.i64.max = 9223372036854775807 := rfl
  simp only [Lit.wf, Bool.and_eq_true, decide_eq_true_eq] at h
  omega
theorem open_txt {H : Type} {enc : TypeId × Value → H} {W : World} {base : Nat} {v : Value} {d : DataW H} {ps : List MemPlace} (hval : Value.okWide Try.prog W .any base 9 v) (hd : DataW.Trod enc Try.prog W 0 (fun _ => true) true 9 v d ps) : ∃ l : List UInt8, v = .string ⟨l.toArray⟩ ∧ l.length ≤ maxLen := by
  obtain ⟨s, rfl, rfl, rfl, hs⟩ := Go.ChangeMaps.open_string Try.underlying9 hval hd
  obtain ⟨⟨l⟩⟩ := s
  exact ⟨l, rfl, hs⟩
end Go.Proofs.Ytcjakgogdbfagaa
