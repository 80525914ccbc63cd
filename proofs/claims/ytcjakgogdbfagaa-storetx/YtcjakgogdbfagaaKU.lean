/- Layer 11: a store and its transaction, made since a world: what the laws' calls leave. -/
import Derived.Test.YtcjakgogdbfagaaKL
import Derived.Test.YtcjakgogdbfagaaKP
import Derived.Test.YtcjakgogdbfagaaKQ
import Derived.Test.YtcjakgogdbfagaaKT
namespace Go.Proofs.Ytcjakgogdbfagaa
open Go.RowKit
/-- The store at sb has M, its transaction at xb shows N; all was made since w0. -/
def AX (sb xb : Nat) (M N : Kvs) (d : Nat) (w0 w : World) : Prop := ∃ b : TxB, b.xb = xb ∧ SX sb b M N d w ∧ (∀ i ∈ b.l, w0.heap.size ≤ i) ∧ w0.heap.size ≤ sb ∧ Below w0.heap.size w0 w
section
variable {sb xb : Nat} {M N : Kvs} {d : Nat} {w0 w w' : World}
theorem AX.below (h : AX sb xb M N d w0 w) (k : Below w.heap.size w w') : AX sb xb M N d w0 w' := by
  obtain ⟨b, h1, h2, h3, h4, h5⟩ := h
  exact ⟨b, h1, h2.below k, h3, h4, h5.trans (k.mono h5.size)⟩
theorem AX.drewN (h : AX sb xb M N d w0 w) (m : Nat) : AX sb xb M N d w0 (w.drewN m) := h.below (below_drewN (Below.refl _ w) m)
theorem AX.bel (h : AX sb xb M N d w0 w) : Below w0.heap.size w0 w := by
  obtain ⟨b, h1, h2, h3, h4, h5⟩ := h
  exact h5
theorem AX.st (h : AX sb xb M N d w0 w) : ∃ tb g, StAt sb tb g M w := by
  obtain ⟨b, h1, h2, h3, h4, h5⟩ := h
  exact ⟨_, _, h2.st⟩
/-- The blocks of a transaction are of its own types. -/
theorem sx_typed {b : TxB} (h : SX sb b M N d w) : ∀ i ∈ b.l, ∃ cs t, w.heap[i]? = some (.cells cs t (0, 0)) ∧ (t = 65 ∨ t = 59 ∨ t = 90 ∨ t = 96) := by
  obtain ⟨S, D, h1, _⟩ := h.tx
  have tr : ∀ {tb g : Nat} {L : Kvs}, TreeAt tb g L w → (∃ cs, w.heap[tb]? = some (.cells cs 90 (0, 0))) ∧ (∃ cs, w.heap[g]? = some (.cells cs 96 (0, 0))) := fun t => by
    obtain ⟨n, cap, root, f, T, q1, q2⟩ := t
    obtain ⟨cur, q3, _⟩ := q1.nb
    exact ⟨⟨_, q1.box⟩, ⟨_, q3⟩⟩
  intro i hi
  simp only [TxB.l, List.mem_cons, List.not_mem_nil, or_false] at hi
  rcases hi with rfl | rfl | rfl | rfl | rfl | rfl | rfl | rfl
  · exact ⟨_, _, h1.box, .inl rfl⟩
  · exact ⟨_, _, h1.cbx, .inr (.inl rfl)⟩
  · obtain ⟨cs, e⟩ := (tr h1.t).1; exact ⟨_, _, e, .inr (.inr (.inl rfl))⟩
  · obtain ⟨cs, e⟩ := (tr h1.t).2; exact ⟨_, _, e, .inr (.inr (.inr rfl))⟩
  · obtain ⟨cs, e⟩ := (tr h1.s).1; exact ⟨_, _, e, .inr (.inr (.inl rfl))⟩
  · obtain ⟨cs, e⟩ := (tr h1.s).2; exact ⟨_, _, e, .inr (.inr (.inr rfl))⟩
  · obtain ⟨cs, e⟩ := (tr h1.d).1; exact ⟨_, _, e, .inr (.inr (.inl rfl))⟩
  · obtain ⟨cs, e⟩ := (tr h1.d).2; exact ⟨_, _, e, .inr (.inr (.inr rfl))⟩
theorem AX.of {b : TxB} {M' N' : Kvs} {d' : Nat} {v : Value} {e : Ending} (h2 : SX sb b M N d w) (h3 : ∀ i ∈ b.l, w0.heap.size ≤ i) (h4 : w0.heap.size ≤ sb) (h5 : Below w0.heap.size w0 w) (e1 : b.xb = xb) (hx : SXEnd sb b M' N' d' v w e w') : e = .returned v ∧ Hid (AX sb xb M' N' d' w0 w' ∧ ∀ va n vc X, PRow va n vc X w → PRow va n vc X w') := by
  obtain ⟨r, H⟩ := hx
  obtain ⟨b', q1, q2, q3, q4, q5⟩ := H.out
  have hs := h5.size
  refine ⟨r, hidb ⟨⟨b', q2.trans e1, q1, fun i hi => ?_, h4, h5.trans (q5.toBelow hs h3)⟩, fun va n vc X hr => ?_⟩⟩
  · rcases q4 i hi with x | x
    · exact h3 i x
    · omega
  · obtain ⟨p1, B, p2⟩ := hr
    refine ⟨p1, B, row_kt p2 q5 fun g e hg => ?_⟩
    obtain ⟨cs, t, ht, hc⟩ := sx_typed h2 g hg
    have := row_typed p2 e ht
    rcases hc with rfl | rfl | rfl | rfl <;> exact absurd this (by decide)
theorem ax_begin {rb : Nat} (h : FJ sb rb M M w0 w) : Calls Try.prog 5 #[.pointer (some ⟨sb, 0, none⟩)] w fun e w1 => ∃ xb, e = .returned (.pointer (some ⟨xb, 0, none⟩)) ∧ Hid (AX sb xb M M 0 w0 w1) := by
  obtain ⟨tb, g, v, h1, _, h3, l1, l2, l3, _⟩ := h
  refine (begin_i sb tb g M w h1).mono ?_
  rintro e w1 ⟨xb, rfl, H⟩
  obtain ⟨b, e1, e2, e3, q1, q2, q3⟩ := H.out
  have hs := h3.size
  refine ⟨xb, rfl, hidb ⟨b, e1, q1, fun i hi => ?_, l1, h3.trans (q3.mono hs)⟩⟩
  rcases q2 i hi with e | e | e <;> omega
theorem ax_load (h : AX sb xb M N d w0 w) (k : Bt) : Calls Try.prog 13 #[.pointer (some ⟨xb, 0, none⟩), sv k] w fun e w1 => e = .returned (.tuple #[sv ((getL N k).getD []), .bool (getL N k).isSome]) ∧ ∃ m, w1 = w.drewN m := by
  obtain ⟨b, rfl, h2, _⟩ := h
  exact load_i sb b M N d w k h2
theorem ax_next (h : AX sb xb M N d w0 w) (k : Bt) : Calls Try.prog 15 #[.pointer (some ⟨xb, 0, none⟩), sv k] w fun e w1 => e = .returned (.tuple #[sv ((nextL N k).getD []), .bool (nextL N k).isSome]) ∧ ∃ m, w1 = w.drewN m := by
  obtain ⟨b, rfl, h2, _⟩ := h
  exact txnext_i sb b M N d w k h2
theorem ax_save (h : AX sb xb M N d w0 w) (k v : Bt) (hk : k.length ≤ 9223372036854775807) (hv : v.length ≤ 9223372036854775807) (hM : MOk M) (hN : MOk N) : Calls Try.prog 9 #[.pointer (some ⟨xb, 0, none⟩), sv k, sv v] w fun e w1 => e = .returned (.int .i64 (putE N k v)) ∧ Hid (AX sb xb M (putS N k v) d w0 w1 ∧ ∀ va n vc X, PRow va n vc X w → PRow va n vc X w1) := by
  obtain ⟨b, rfl, h2, h3, h4, h5⟩ := h
  exact (save_i sb b M N d w k v h2 hk hv hM.len hN.len).mono fun e w1 hx => AX.of h2 h3 h4 h5 rfl hx
theorem ax_wipe (h : AX sb xb M N d w0 w) (k : Bt) (hk : k.length ≤ 9223372036854775807) (hM : MOk M) (hN : MOk N) (hd : (d + 2) * 46 ≤ 140737488355328) : Calls Try.prog 11 #[.pointer (some ⟨xb, 0, none⟩), sv k] w fun e w1 => e = .returned (.int .i64 (wipeE k)) ∧ Hid (AX sb xb M (wipeS N k) (d + 1) w0 w1 ∧ ∀ va n vc X, PRow va n vc X w → PRow va n vc X w1) := by
  obtain ⟨b, rfl, h2, h3, h4, h5⟩ := h
  exact (wipe_i sb b M N d w k h2 hk hM.len hN.len hd).mono fun e w1 hx => AX.of h2 h3 h4 h5 rfl hx
set_option maxRecDepth 100000 in
theorem ax_commit (h : AX sb xb M N d w0 w) (hM : MOk M) (hN : MOk N) (hd : (d + 2000) * 46 ≤ 140737488355328) : Calls Try.prog 17 #[.pointer (some ⟨xb, 0, none⟩)] w fun e w1 => e = .returned (.int .i64 0) ∧ Hid (AX sb xb N N 0 w0 w1 ∧ ∀ va n vc X, PRow va n vc X w → PRow va n vc X w1) := by
  obtain ⟨b, rfl, h2, h3, h4, h5⟩ := h
  exact (commit_i sb b M N d w h2 hM.len hN.len hd hN.big).mono fun e w1 hx => AX.of h2 h3 h4 h5 rfl hx
theorem difs_same {M C : Kvs} (h : Difs M M C) : C = [] := by
  refine kvs_ext h.srt List.Pairwise.nil fun k => ?_
  rw [h.get, dif, if_pos rfl]
  rfl
set_option maxRecDepth 100000 in
theorem ax_changes (h : AX sb xb M N d w0 w) (hN : MOk N) (hd : (d + 1000) * 46 ≤ 140737488355328) : Calls Try.prog 20 #[.pointer (some ⟨xb, 0, none⟩)] w fun e w1 => ∃ va n vc, e = .returned (.slice va n vc) ∧ Hid (∃ C, Difs M N C ∧ C.length ≤ d + 512 ∧ PRow va n vc C w1 ∧ Below w.heap.size w w1) := by
  obtain ⟨b, rfl, h2, h3, h4, h5⟩ := h
  refine (changes_i sb b M N d w h2 hN.len hd).mono ?_
  rintro e w1 ⟨va, n, vc, rfl, H⟩
  obtain ⟨C, hn, hl, hD, hr, hb⟩ := H.out
  subst hn
  exact ⟨va, _, vc, rfl, hidb ⟨C, hD, hl, ⟨rfl, _, hr⟩, hb⟩⟩
set_option maxRecDepth 100000 in
/-- A store's bytes, read as a text. -/
theorem bytes_s {tb g : Nat} (h : StAt sb tb g M w) (hM : MOk M) : Calls Try.prog 22 #[.pointer (some ⟨sb, 0, none⟩)] w fun e w1 => ∃ q n, e = .returned (.slice (some ⟨q, 0, none⟩) n n) ∧ (∀ m, (convert 51 9 (.slice (some ⟨q, 0, none⟩) n n)).run Try.prog (w1.drewN m) = .ok (.string ⟨(stB M).toArray⟩) (w1.drewN m)) ∧ Hid (n = (stB M).length ∧ OwnB w1 w.heap.size (.slice (some ⟨q, 0, none⟩) n n) (stB M) ∧ Below w.heap.size w w1) := by
  refine (bytes_w sb tb g M w h hM.len hM.small).mono ?_
  rintro e w1 ⟨q, rfl, ho, hb⟩
  refine ⟨q, _, rfl, fun m => ?_, hidb ⟨rfl, ho, hb⟩⟩
  obtain ⟨ao, cap, e, _, _, hB, _⟩ := Own.bs ho
  injection e with e1 e2 e3
  subst e1
  exact run_str (hB.keep (fun a v h => by simpa using h)) _
end
theorem MOk.wipe {M : Kvs} (h : MOk M) (k : Bt) : MOk (wipeS M k) := by
  unfold wipeS
  split
  · exact h
  · exact h.del k
end Go.Proofs.Ytcjakgogdbfagaa
