/- Layer 11: plain facts on scans and on the key ahead of a place. Layer 11: a store, its copy read, its copy, and one that is filled anew. -/
import Derived.Test.YticihfbhnbkjjaaDoorKM
import Derived.Test.YticihfbhnbkjjaaDoorKQ
import Derived.Test.YticihfbhnbkjjaaDoorKY
import Derived.Test.YticihfbhnbkjjaaDoorKW
namespace Go.Proofs.YticihfbhnbkjjaaDoor
open Go.RowKit
theorem wrap_smallK {x : Int} (h0 : -1000000 ≤ x) (h1 : x ≤ 1000000) : IntKind.i64.wrap x = x := by
  simp only [IntKind.wrap, IntKind.bits, IntKind.signed]
  simp
  omega
theorem scan_all (M : Kvs) : scanL M [] [] 0 = M := by
  unfold scanL
  rw [if_pos rfl, cutL, if_pos rfl, fromL_nil]
theorem scan_upto (M : Kvs) (mid : Bt) (h : mid ≠ []) : scanL M [] mid 0 = M.takeWhile fun x => ltB x.1 mid := by
  unfold scanL
  rw [if_pos rfl, cutL, if_neg h, fromL_nil]
theorem scan_on (M : Kvs) (mid : Bt) : scanL M mid [] 0 = fromL M mid := by
  unfold scanL
  rw [if_pos rfl, cutL, if_pos rfl]
theorem parts_of {M : Kvs} (s : SrtL M) (mid : Bt) : (M.takeWhile fun x => ltB x.1 mid) ++ fromL M mid = M := by
  have h1 : fromL M mid = M.drop (posL M mid) := by
    have hsp : M = M.take (posL M mid) ++ M.drop (posL M mid) := (List.take_append_drop _ _).symm
    have ha : fromL (M.take (posL M mid)) mid = [] := List.filter_eq_nil_iff.2 fun x hx => by
      have := pos_before x hx
      simp only [decide_not, Bool.not_eq_eq_eq_not, Bool.not_true, decide_eq_false_iff_not, Classical.not_not]
      exact this
    have hb : fromL (M.drop (posL M mid)) mid = M.drop (posL M mid) := List.filter_eq_self.2 fun x hx => by
      obtain ⟨j, hj, rfl⟩ := List.getElem_of_mem hx
      rw [List.getElem_drop]
      rw [List.length_drop] at hj
      have : ¬ klt M[posL M mid + j].1 mid := by
        by_cases e : j = 0
        · subst e; exact pos_at (by omega)
        · exact klt_asymm (pos_after s (by omega) (by omega))
      exact decide_eq_true this
    have : fromL M mid = fromL (M.take (posL M mid)) mid ++ fromL (M.drop (posL M mid)) mid := by
      unfold fromL
      rw [← List.filter_append, List.take_append_drop]
    rw [this, ha, hb]
    rfl
  have h2 : (M.takeWhile fun x => ltB x.1 mid) = M.take (posL M mid) := List.prefix_iff_eq_take.1 (List.takeWhile_prefix _)
  rw [h1, h2, List.take_append_drop]
/-- The key ahead of a place. -/
def preK (M : Kvs) (i : Nat) : Bt := if h : 0 < i ∧ i ≤ M.length then M[i - 1].1 else []
theorem preK_succ {M : Kvs} {i : Nat} (h : i < M.length) : preK M (i + 1) = M[i].1 := by
  unfold preK
  rw [dif_pos ⟨by omega, by omega⟩]
  rfl
theorem nil_klt {k : Bt} (h : k ≠ []) : klt [] k := by
  cases k with
  | nil => exact absurd rfl h
  | cons c t => unfold klt; simp [Op.bytesLess]
theorem not_klt_nil (k : Bt) : ¬ klt k [] := by unfold klt; cases k <;> simp [Op.bytesLess]
theorem next_pre {M : Kvs} (s : SrtL M) {i : Nat} (h : i < M.length) (hne : M[i].1 ≠ []) : nextL M (preK M i) = some M[i].1 := by
  have hsr := List.pairwise_iff_getElem.1 s
  refine next_is s (mem_get s (List.getElem_mem h)) ?_ fun x hx hk hq => ?_
  · unfold preK
    split
    · rename_i hp
      exact hsr _ _ (by omega) h (by omega)
    · exact nil_klt hne
  · obtain ⟨j, hj, rfl⟩ := List.getElem_of_mem hx
    have hji : j < i := by
      rcases Nat.lt_or_ge j i with c | c
      · exact c
      · exfalso
        by_cases e : j = i
        · subst e; exact klt_irr _ hq
        · exact klt_asymm hq (hsr _ _ h hj (by omega))
    have : preK M i = M[i - 1].1 := by
      unfold preK
      rw [dif_pos ⟨by omega, by omega⟩]
    rw [this] at hk
    by_cases e : j = i - 1
    · subst e; exact klt_irr _ hk
    · exact klt_asymm hk (hsr _ _ hj (by omega) (by omega))
theorem next_last {M : Kvs} (s : SrtL M) : nextL M (preK M M.length) = none := by
  have hsr := List.pairwise_iff_getElem.1 s
  refine next_not s fun x hx hk => ?_
  obtain ⟨j, hj, rfl⟩ := List.getElem_of_mem hx
  have : preK M M.length = M[M.length - 1].1 := by
    unfold preK
    rw [dif_pos ⟨by omega, by omega⟩]
  rw [this] at hk
  by_cases e : j = M.length - 1
  · subst e; exact klt_irr _ hk
  · exact klt_asymm hk (hsr _ _ hj (by omega) (by omega))
end Go.Proofs.YticihfbhnbkjjaaDoor
namespace Go.Proofs.YticihfbhnbkjjaaDoor
open Go.RowKit
/-- A store whose blocks lie from a up to b. -/
def StIn (p : Nat) (M : Kvs) (a b : Nat) (W : World) : Prop := ∃ tb g, StAt p tb g M W ∧ (a ≤ p ∧ a ≤ tb ∧ a ≤ g) ∧ p < b ∧ tb < b ∧ g < b
theorem StIn.keep {p : Nat} {M : Kvs} {a b : Nat} {W W' : World} (h : StIn p M a b W) (k : ∀ i, a ≤ i → i < b → W'.heap[i]? = W.heap[i]?) : StIn p M a b W' := by
  obtain ⟨tb, g, h1, h2, h3⟩ := h
  exact ⟨tb, g, h1.keep (k _ (by omega) (by omega)) (k _ (by omega) (by omega)) (k _ (by omega) (by omega)), h2, h3⟩
theorem StIn.mono {p : Nat} {M : Kvs} {a b a' b' : Nat} {W : World} (h : StIn p M a b W) (ha : a' ≤ a) (hb : b ≤ b') : StIn p M a' b' W := by
  obtain ⟨tb, g, h1, h2, h3⟩ := h
  exact ⟨tb, g, h1, by omega, by omega⟩
theorem StIn.here {p tb g : Nat} {M : Kvs} {a : Nat} {W : World} (h : StAt p tb g M W) (ha : a ≤ p ∧ a ≤ tb ∧ a ≤ g) : StIn p M a W.heap.size W := ⟨tb, g, h, ha, h.lts⟩
theorem StIn.put {p : Nat} {M : Kvs} {a : Nat} {W : World} (h : StIn p M a W.heap.size W) (k v : Bt) (hk : k.length ≤ 9223372036854775807) (hv : v.length ≤ 9223372036854775807) (hM : M.length ≤ 512) :
    Calls Tryd.prog 14 #[.pointer (some ⟨p, 0, none⟩), sv k, sv v] W fun e W' => e = .returned (.int .i64 (putE M k v)) ∧ Hid (StIn p (putS M k v) a W'.heap.size W' ∧ (∀ i, i < a → i < W.heap.size → W'.heap[i]? = W.heap[i]?) ∧ (∀ B, B ≤ a → B ≤ W.heap.size → Below B W W') ∧ ∀ va n vc X, PRow va n vc X W → PRow va n vc X W') := by
  obtain ⟨tb, g, h1, h2, h3⟩ := h
  refine (sput_any p tb g M W k v h1 hk hv hM).mono ?_
  rintro e W' ⟨rfl, H⟩
  obtain ⟨g', q1, q2, q3⟩ := H.out
  refine ⟨rfl, hidb ⟨StIn.here q1 (by omega), fun i hi hs => q3.block i hs (by omega), fun B hB hs => (chg_of_kt q3).below hs fun i e => by omega, fun va n vc X hr => ?_⟩⟩
  obtain ⟨p1, B, p2⟩ := hr
  refine ⟨p1, B, row_kt p2 q3 fun i e hi => ?_⟩
  obtain ⟨_, _, _, _, _, hT, _⟩ := h1.t
  rcases hi with rfl | rfl
  · exact absurd (row_typed p2 e hT.box) (by decide)
  · obtain ⟨cur, hc, _⟩ := hT.nb
    exact absurd (row_typed p2 e hc) (by decide)
theorem StIn.del {p : Nat} {M : Kvs} {a : Nat} {W : World} (h : StIn p M a W.heap.size W) (k : Bt) :
    Calls Tryd.prog 15 #[.pointer (some ⟨p, 0, none⟩), sv k] W fun e W' => e = .returned (.bool (getL M k).isSome) ∧ Hid ((∀ i, i < a → i < W.heap.size → W'.heap[i]? = W.heap[i]?) ∧ (∀ B, B ≤ a → B ≤ W.heap.size → Below B W W')) := by
  obtain ⟨tb, g, h1, h2, h3⟩ := h
  refine (sdel_any p tb g M W k h1).mono ?_
  rintro e W' ⟨rfl, H⟩
  obtain ⟨g', q1, q2, q3⟩ := H.out
  exact ⟨rfl, hidb ⟨fun i hi hs => q3.block i hs (by omega), fun B hB hs => (chg_of_kt q3).below hs fun i e => by omega⟩⟩
/-- The four stores of the law. -/
def Bk (sb r c t : Nat) (M X : Kvs) (w0 W : World) : Prop := ∃ Y Z, (w0.heap.size ≤ Y ∧ Y ≤ Z ∧ Z ≤ W.heap.size) ∧ StIn sb M 0 Y W ∧ StIn r M 0 Y W ∧ StIn c M Y Z W ∧ StIn t X Z W.heap.size W ∧ Below w0.heap.size w0 W
/-- The first store and the changed copy. -/
def Bk2 (sb c : Nat) (M X : Kvs) (w0 W : World) : Prop := ∃ Y, (w0.heap.size ≤ Y ∧ Y ≤ W.heap.size) ∧ StIn sb M 0 Y W ∧ StIn c X Y W.heap.size W ∧ Below w0.heap.size w0 W
section
variable {sb r c t : Nat} {M X : Kvs} {w0 W : World}
theorem Bk.below {W' : World} (h : Bk sb r c t M X w0 W) (k : Below W.heap.size W W') : Bk sb r c t M X w0 W' := by
  obtain ⟨Y, Z, h1, h2, h3, h4, h5, h6⟩ := h
  have hs := k.size
  have hs0 := h6.size
  exact ⟨Y, Z, by omega, h2.keep fun i _ hi => k.block i (by omega), h3.keep fun i _ hi => k.block i (by omega), h4.keep fun i _ hi => k.block i (by omega), (h5.keep fun i _ hi => k.block i (by omega)).mono (Nat.le_refl _) hs, h6.trans (k.mono hs0)⟩
theorem Bk.two (h : Bk sb r c t M X w0 W) : Bk2 sb c M M w0 W := by
  obtain ⟨Y, Z, h1, h2, h3, h4, h5, h6⟩ := h
  exact ⟨Y, by omega, h2, h4.mono (Nat.le_refl _) h1.2.2, h6⟩
theorem Bk.put (h : Bk sb r c t M X w0 W) (hX : X.length ≤ 512) (k v : Bt) (hk : k.length ≤ 9223372036854775807) (hv : v.length ≤ 9223372036854775807) :
    Calls Tryd.prog 14 #[.pointer (some ⟨t, 0, none⟩), sv k, sv v] W fun e W' => e = .returned (.int .i64 (putE X k v)) ∧ Hid (Bk sb r c t M (putS X k v) w0 W' ∧ ∀ va n vc X, PRow va n vc X W → PRow va n vc X W') := by
  obtain ⟨Y, Z, h1, h2, h3, h4, h5, h6⟩ := h
  refine (h5.put k v hk hv hX).mono ?_
  rintro e W' ⟨rfl, H⟩
  obtain ⟨q1, q2, q3, q4⟩ := H.out
  have hb := q3 w0.heap.size (by omega) (by omega)
  have := hb.size
  exact ⟨rfl, hidb ⟨⟨Y, Z, by omega, h2.keep fun i _ hi => q2 i (by omega) (by omega), h3.keep fun i _ hi => q2 i (by omega) (by omega), h4.keep fun i _ hi => q2 i (by omega) (by omega), q1, h6.trans hb⟩, q4⟩⟩
theorem Bk.at (h : Bk sb r c t M M w0 W) {p : Nat} (hp : p = sb ∨ p = r ∨ p = c ∨ p = t) : ∃ tb g, StAt p tb g M W := by
  obtain ⟨Y, Z, h1, h2, h3, h4, h5, h6⟩ := h
  rcases hp with rfl | rfl | rfl | rfl
  · obtain ⟨tb, g, x, _⟩ := h2; exact ⟨tb, g, x⟩
  · obtain ⟨tb, g, x, _⟩ := h3; exact ⟨tb, g, x⟩
  · obtain ⟨tb, g, x, _⟩ := h4; exact ⟨tb, g, x⟩
  · obtain ⟨tb, g, x, _⟩ := h5; exact ⟨tb, g, x⟩
theorem Bk.bytes (h : Bk sb r c t M M w0 W) (hM : MOk M) (p : Nat) (hp : p = sb ∨ p = r ∨ p = c ∨ p = t) :
    Calls Tryd.prog 18 #[.pointer (some ⟨p, 0, none⟩)] W fun e w1 => ∃ q k, e = .returned (.slice (some ⟨q, 0, none⟩) k k) ∧ (convert 42 9 (.slice (some ⟨q, 0, none⟩) k k)).run Tryd.prog w1 = .ok (sv (stB M)) w1 ∧ Hid (Bk sb r c t M M w0 w1) := by
  obtain ⟨tb, g, hst⟩ := h.at hp
  refine (bytes_s hst hM).mono ?_
  rintro e w1 ⟨q, k, e1, e2, H⟩
  exact ⟨q, k, e1, e2 0, hidb (h.below H.out.2.2)⟩
theorem Bk.hash (h : Bk sb r c t M M w0 W) (hM : MOk M) (ht : Tab w0) (p : Nat) (hp : p = sb ∨ p = r ∨ p = c ∨ p = t) :
    Calls Tryd.prog 17 #[.pointer (some ⟨p, 0, none⟩)] W fun e w1 => e = .returned (.int .i64 (crc (stB M) : Nat)) ∧ Hid (Bk sb r c t M M w0 w1) := by
  obtain ⟨tb, g, hst⟩ := h.at hp
  have hb : Below w0.heap.size w0 W := by obtain ⟨_, _, _, _, _, _, _, h6⟩ := h; exact h6
  refine (shash_any p tb g M W hst hM.len hM.small (ht.keep (below_keep hb))).mono ?_
  rintro e w1 ⟨e1, H⟩
  exact ⟨e1, hidb (h.below H)⟩
theorem Bk2.put (h : Bk2 sb c M X w0 W) (hX : X.length ≤ 512) (k v : Bt) (hk : k.length ≤ 9223372036854775807) (hv : v.length ≤ 9223372036854775807) :
    Calls Tryd.prog 14 #[.pointer (some ⟨c, 0, none⟩), sv k, sv v] W fun e W' => e = .returned (.int .i64 (putE X k v)) ∧ Hid (Bk2 sb c M (putS X k v) w0 W') := by
  obtain ⟨Y, h1, h2, h5, h6⟩ := h
  refine (h5.put k v hk hv hX).mono ?_
  rintro e W' ⟨rfl, H⟩
  obtain ⟨q1, q2, q3, _⟩ := H.out
  have hb := q3 w0.heap.size (by omega) (by omega)
  have := hb.size
  have hz := (q3 0 (by omega) (by omega)).size
  exact ⟨rfl, hidb ⟨Y, by omega, h2.keep fun i _ hi => q2 i (by omega) (by omega), q1, h6.trans hb⟩⟩
theorem Bk2.del (h : Bk2 sb c M X w0 W) (k : Bt) :
    Calls Tryd.prog 15 #[.pointer (some ⟨c, 0, none⟩), sv k] W fun e W' => e = .returned (.bool (getL X k).isSome) ∧ Hid ((∃ tb g, StAt sb tb g M W') ∧ Below w0.heap.size w0 W') := by
  obtain ⟨Y, h1, h2, h5, h6⟩ := h
  refine (h5.del k).mono ?_
  rintro e W' ⟨rfl, H⟩
  obtain ⟨q2, q3⟩ := H.out
  obtain ⟨tb, g, x, _⟩ := h2.keep (W' := W') fun i _ hi => q2 i (by omega) (by omega)
  exact ⟨rfl, hidb ⟨⟨tb, g, x⟩, h6.trans (q3 _ (by omega) (by omega))⟩⟩
end
/-- What is done ahead of the loop. -/
theorem bk_pre {sb rb : Nat} {M : Kvs} {w W : World} (J : FJ sb rb M M w W) (hM : MOk M) :
    Calls Tryd.prog 18 #[.pointer (some ⟨sb, 0, none⟩)] W fun e w1 => ∃ q k, e = .returned (.slice (some ⟨q, 0, none⟩) k k) ∧
      Hid (Calls Tryd.prog 27 #[.slice (some ⟨q, 0, none⟩) k k] w1 fun e w2 => ∃ r, e = .returned (.tuple #[.pointer (some ⟨r, 0, none⟩), .int .i64 0]) ∧
      Hid (Calls Tryd.prog 24 #[.pointer (some ⟨sb, 0, none⟩)] w2 fun e w3 => ∃ c, e = .returned (.pointer (some ⟨c, 0, none⟩)) ∧
      Hid (Calls Tryd.prog 6 #[] w3 fun e w4 => ∃ t, e = .returned (.pointer (some ⟨t, 0, none⟩)) ∧
      Hid (Calls Tryd.prog 19 #[.pointer (some ⟨sb, 0, none⟩), sv [], sv [], .int .i64 0] w4 fun e w5 => ∃ va n vc, e = .returned (.slice va n vc) ∧ n ≤ 512 ∧ Hid (PRow va n vc M w5 ∧ Bk sb r c t M [] w w5))))) := by
  obtain ⟨tb, g, h0⟩ := J.st
  have b0 := J.bel
  refine (bytes_w sb tb g M W h0 hM.len hM.small).mono ?_
  rintro e w1 ⟨q, rfl, hO, b1⟩
  refine ⟨q, _, rfl, hidb ?_⟩
  have hB : Bs w1 (some ⟨q, 0, none⟩) (stB M) := by
    obtain ⟨ao, cap, e, _, _, hB, _⟩ := Own.bs hO
    injection e with e1 e2 e3
    subst e1
    exact hB
  refine (sread_back _ _ _ M w1 rfl hB hM.srt hM.len hM.small).mono ?_
  rintro e w2 ⟨r, rfl, H2⟩
  obtain ⟨tr, gr, s2, _, _, _, b2⟩ := H2.out
  refine ⟨r, rfl, hidb ?_⟩
  have s0 := (h0.below b1).below b2
  have hl := hM.len
  refine (sclone_any sb tb g M w2 s0 (by omega)).mono ?_
  rintro e w3 ⟨c, rfl, H3⟩
  obtain ⟨tc, gc, s3, l1, l2, l3, b3⟩ := H3.out
  refine ⟨c, rfl, hidb ((new_any w3).mono ?_)⟩
  rintro e w4 ⟨t, rfl, H4⟩
  obtain ⟨tt, gt, s4, m1, m2, m3, b4⟩ := H4.out
  refine ⟨t, rfl, hidb ?_⟩
  have z0 := b0.size
  have z1 := b1.size
  have z2 := b2.size
  have z3 := b3.size
  have z4 := b4.size
  have B4 : Bk sb r c t M [] w w4 := ⟨w2.heap.size, w3.heap.size, by omega,
    ((StIn.here s0 (a := 0) (by omega)).keep fun i _ hi => b3.block i hi).keep fun i _ hi => b4.block i (by omega),
    ((StIn.here s2 (a := 0) (by omega)).keep fun i _ hi => b3.block i hi).keep fun i _ hi => b4.block i (by omega),
    (StIn.here s3 ⟨l1, l2, l3⟩).keep fun i _ hi => b4.block i hi, StIn.here s4 ⟨m1, m2, m3⟩,
    (((b0.trans (b1.mono z0)).trans (b2.mono (by omega))).trans (b3.mono (by omega))).trans (b4.mono (by omega))⟩
  refine (scan_f ((s0.below b3).below b4) hM.len [] [] 0 (by decide)).mono ?_
  rintro e w5 ⟨va, n, vc, e1, e2, H5⟩
  have hp := H5.out.1
  rw [scan_all] at hp
  exact ⟨va, n, vc, e1, e2, hidb ⟨hp, B4.below H5.out.2⟩⟩
/-- A pair put ahead of the others, twice. -/
theorem put_ahead {M : Kvs} (hM : MOk M) {j : Nat} (hj : j < M.length) :
    putE (M.drop (j + 1)) M[j].1 [120] = 0 ∧ putE (putS (M.drop (j + 1)) M[j].1 [120]) M[j].1 M[j].2 = 0 ∧ putS (putS (M.drop (j + 1)) M[j].1 [120]) M[j].1 M[j].2 = M.drop j ∧ (putS (M.drop (j + 1)) M[j].1 [120]).length ≤ 512 := by
  obtain ⟨b1, b2⟩ := hM.small M[j] (List.getElem_mem hj)
  have l1 : longB M[j].1 [120] = false := by simp [longB]; omega
  have l2 : longB M[j].1 M[j].2 = false := by simp [longB]; omega
  have hlt : ∀ x ∈ M.drop (j + 1), klt M[j].1 x.1 := fun x hx => by
    obtain ⟨i, hi, rfl⟩ := List.mem_iff_getElem.1 hx
    rw [List.length_drop] at hi
    rw [List.getElem_drop]
    exact (List.pairwise_iff_getElem.1 hM.srt) j _ hj (by omega) (by omega)
  have hg : getL (M.drop (j + 1)) M[j].1 = none := getL_none fun x hx => (klt_ne (hlt x hx)).symm
  have hl := hM.len
  have hd : (M.drop (j + 1)).length < 512 := by rw [List.length_drop]; omega
  have e1 : putL (M.drop (j + 1)) M[j].1 [120] = (M[j].1, [120]) :: M.drop (j + 1) := putL_new (A := []) (fun x hx => by cases hx) hlt
  have p1 : putS (M.drop (j + 1)) M[j].1 [120] = (M[j].1, [120]) :: M.drop (j + 1) := by
    rw [putS, l1, if_neg (by decide), if_neg (by omega), e1]
  have g2 : getL ((M[j].1, ([120] : Bt)) :: M.drop (j + 1)) M[j].1 = some [120] := by rw [getL, if_pos rfl]
  refine ⟨by rw [putE, l1, if_neg (by decide), if_neg (by omega)], ?_, ?_, ?_⟩
  · rw [p1, putE, l2, if_neg (by decide), if_neg (fun h => by rw [g2] at h; cases h.1)]
  · rw [p1, putS, l2, if_neg (by decide), if_neg (fun h => by rw [g2] at h; cases h.1), putL, if_pos rfl, ← List.drop_eq_getElem_cons hj]
  · rw [p1, List.length_cons]; omega
end Go.Proofs.YticihfbhnbkjjaaDoor
