/- Layer 15: the disk's small functions. -/
import Derived.Test.YthmjejmignangaaGreatDoorEJ
namespace Go.Proofs.YthmjejmignangaaGreatDoor
open Go.RowKit
/-- On the way from w to W the disk's own blocks alone have turned. -/
structure DMid (own : Nat → Prop) (db vb : Nat) (fsv : Value) (zs : Zs) (most fuse : Int) (off : Bool) (w W : World) : Prop where
  at_ : DAt db vb fsv zs most fuse off W
  has : ∀ k, DOwn db vb fsv zs k → own k ∨ w.heap.size ≤ k
  kt : Kt own w W
section
variable {own : Nat → Prop} {db vb : Nat} {fsv : Value} {zs : Zs} {most fuse : Int} {off : Bool} {w W W' : World}
theorem DMid.start (h : DAt db vb fsv zs most fuse off w) : DMid (DOwn db vb fsv zs) db vb fsv zs most fuse off w w := ⟨h, fun _ h => .inl h, Kt.refl _ _⟩
theorem DMid.below (h : DMid own db vb fsv zs most fuse off w W) (k : Below W.heap.size W W') : DMid own db vb fsv zs most fuse off w W' := ⟨h.at_.below k, h.has, h.kt.trans (Kt.below (S := own) k) fun _ _ x => x⟩
theorem DMid.kts {R : Nat → Prop} (h : DMid own db vb fsv zs most fuse off w W) (k : Kt R W W') (hr : ∀ i, R i → DOwn db vb fsv zs i) : Kt own w W' := h.kt.trans k fun i hi x => (h.has i (hr i x)).resolve_right (by omega)
/-- A file has turned. -/
theorem DMid.upd {A B : Zs} {g : Fg} {f f' : Fl} (h : DMid own db vb fsv (A ++ (g, f) :: B) most fuse off w W) (k : FEnd g f' W W') (hn : f'.name = f.name) (hs : (A.map fun z => z.2.cs.length).sum + f'.cs.length + (B.map fun z => z.2.cs.length).sum ≤ 65536) : ∃ g', g'.fb = g.fb ∧ DMid own db vb fsv (A ++ (g', f') :: B) most fuse off w W' := by
  obtain ⟨g', k⟩ := k
  have H := h.at_
  have hap := H.apart
  rw [List.pairwise_append, List.pairwise_cons] at hap
  have hga : ∀ z ∈ A, ∀ i, z.1.has i → ¬ g.has i := fun z hz i hi => hap.2.2 z hz (g, f) (by simp) i hi
  have hgb : ∀ z ∈ B, ∀ i, g.has i → ¬ z.1.has i := fun z hz i hi => hap.2.1.1 z hz i hi
  have hlt : ∀ i, DOwn db vb fsv (A ++ (g, f) :: B) i → i < W.heap.size := H.lts
  have hmem : ∀ z, z ∈ A ∨ z ∈ B → z ∈ A ++ (g, f) :: B := fun z hz => by rcases hz with x | x <;> simp [x]
  have hno : ∀ z, z ∈ A ∨ z ∈ B → ∀ i, z.1.has i → ¬ g.has i := fun z hz i hi => by
    rcases hz with x | x
    · exact hga z x i hi
    · exact fun y => hgb z x i y hi
  have keepB : ∀ i, i < W.heap.size → ¬ g.has i → W'.heap[i]? = W.heap[i]? := fun i hi hg => k.kt.block i hi hg
  have hg0 := H.own (g, f) (by simp)
  have keepD : ∀ i, i = db ∨ i = vb ∨ fsv.ownBlock = some i → W'.heap[i]? = W.heap[i]? := fun i hi => by
    refine keepB i (hlt i (by rcases hi with x | x | x; exact .inl x; exact .inr (.inl x); exact .inr (.inr (.inl x)))) fun hg => ?_
    obtain ⟨a1, a2, a3⟩ := hg0 i hg
    rcases hi with x | x | x
    · exact a1 x
    · exact a2 x
    · exact a3 x
  have new : ∀ i, g'.has i → g.has i ∨ W.heap.size ≤ i := k.has
  refine ⟨g', k.fb, ⟨(keepD db (.inl rfl)).trans H.dbox, (keepD vb (.inr (.inl rfl))).trans H.vbox, ?_, ?_, ?_, ?_, H.o1, H.o2, H.o3, ?_, ?_, ?_, H.mo, H.fu⟩, ?_, ?_⟩
  · have e : (A ++ (g', f') :: B).map (fun z => Value.pointer (some ⟨z.1.fb, 0, none⟩)) = (A ++ (g, f) :: B).map fun z => Value.pointer (some ⟨z.1.fb, 0, none⟩) := by simp [k.fb]
    rw [e, show (A ++ (g', f') :: B).length = (A ++ (g, f) :: B).length by simp]
    exact row_keep H.row fun i hi => keepD i (.inr (.inr hi))
  · intro z hz
    simp only [List.mem_append, List.mem_cons] at hz
    rcases hz with x | rfl | x
    · exact (H.fl z (hmem z (.inl x))).keep fun i hi => keepB i (hlt i (.inr (.inr (.inr ⟨z, hmem z (.inl x), hi⟩)))) (hno z (.inl x) i hi)
    · exact k.at_
    · exact (H.fl z (hmem z (.inr x))).keep fun i hi => keepB i (hlt i (.inr (.inr (.inr ⟨z, hmem z (.inr x), hi⟩)))) (hno z (.inr x) i hi)
  · rw [List.pairwise_append, List.pairwise_cons]
    refine ⟨hap.1, ⟨fun z hz i hi hz2 => ?_, hap.2.1.2⟩, fun a ha b hb i hi hb2 => ?_⟩
    · rcases new i hi with y | y
      · exact hgb z hz i y hz2
      · have := hlt i (.inr (.inr (.inr ⟨z, hmem z (.inr hz), hz2⟩))); omega
    · rcases List.mem_cons.1 hb with rfl | x
      · rcases new i hb2 with y | y
        · exact hga a ha i hi y
        · have := hlt i (.inr (.inr (.inr ⟨a, hmem a (.inl ha), hi⟩))); omega
      · exact hap.2.2 a ha b (by simp [x]) i hi hb2
  · intro z hz i hi
    simp only [List.mem_append, List.mem_cons] at hz
    rcases hz with x | rfl | x
    · exact H.own z (hmem z (.inl x)) i hi
    · rcases new i hi with y | y
      · exact hg0 i y
      · have l1 := hlt db (.inl rfl)
        have l2 := hlt vb (.inr (.inl rfl))
        exact ⟨by omega, by omega, fun e => by have := hlt i (.inr (.inr (.inl e))); omega⟩
    · exact H.own z (hmem z (.inr x)) i hi
  · have := H.srt
    rw [List.pairwise_append, List.pairwise_cons] at this ⊢
    refine ⟨this.1, ⟨fun z hz => by simp only [hn]; exact this.2.1.1 z hz, this.2.1.2⟩, fun a ha b hb => ?_⟩
    rcases List.mem_cons.1 hb with rfl | x
    · simp only [hn]; exact this.2.2 a ha (g, f) (by simp)
    · exact this.2.2 a ha b (by simp [x])
  · have := H.nf
    simpa using this
  · simp only [List.map_append, List.map_cons, List.sum_append, List.sum_cons]
    omega
  · intro i hi
    rcases hi with x | x | x | ⟨z, hz, x⟩
    · exact h.has i (.inl x)
    · exact h.has i (.inr (.inl x))
    · exact h.has i (.inr (.inr (.inl x)))
    · simp only [List.mem_append, List.mem_cons] at hz
      rcases hz with y | rfl | y
      · exact h.has i (.inr (.inr (.inr ⟨z, hmem z (.inl y), x⟩)))
      · rcases new i x with u | u
        · exact h.has i (.inr (.inr (.inr ⟨(g, f), by simp, u⟩)))
        · exact .inr (Nat.le_trans h.kt.size u)
      · exact h.has i (.inr (.inr (.inr ⟨z, hmem z (.inr y), x⟩)))
  · exact h.kts k.kt fun i hi => .inr (.inr (.inr ⟨(g, f), by simp, hi⟩))
/-- The drive's box has turned. -/
theorem DMid.box {fuse' : Int} {off' : Bool} (h : DMid own db vb fsv zs most fuse off w W) (hb : W'.heap[vb]? = some (.cells #[.int .i64 most, fsv, .int .i64 fuse', .bool off'] 109 (0, 0))) (k : Kt (fun i => i = vb) W W') (hf : -9223372036854775808 ≤ fuse' ∧ fuse' ≤ 9223372036854775807) : DMid own db vb fsv zs most fuse' off' w W' := by
  have H := h.at_
  refine ⟨⟨(k.block db (heap_ltb H.dbox) H.o1).trans H.dbox, hb, row_keep H.row fun i hi => k.block i (H.row.lt i hi).2 (fun e => H.o3 (by rw [hi, e])), fun z hz => (H.fl z hz).kt k fun i hi => (H.own z hz i hi).2.1, H.apart, H.own, H.o1, H.o2, H.o3, H.srt, H.nf, H.us, H.mo, hf⟩, h.has, h.kts k fun i hi => .inr (.inl hi)⟩
end
theorem made15_any (db vb : Nat) (w : World) (c : w.cell? ⟨db, 0, none⟩ = some (.pointer (some ⟨vb, 0, none⟩))) : Calls Tryz.prog 43 #[.pointer (some ⟨db, 0, none⟩)] w fun e w' => e = .returned (.bool true) ∧ w' = w := by
  go_enter Tryz.func43, Tryz.ntmps43
  go_wp2_with fail
  go_ret
  exact ⟨rfl, rfl⟩
theorem ready15_any {db vb : Nat} {fsv : Value} {zs : Zs} {most fuse : Int} {off : Bool} {w : World} (h : DAt db vb fsv zs most fuse off w) : Calls Tryz.prog 56 #[.pointer (some ⟨db, 0, none⟩)] w fun e w' => e = .returned (.int .i64 (if off then 9 else 0)) ∧ w' = w := by
  have cd := h.cd
  have c3 := h.c3
  have HM := hidb (made15_any db vb w cd)
  cases off <;>
  · go_enter Tryz.func56, Tryz.ntmps56
    go_wp2_with (go_at_call 43; refine HM.out.mono ?_; clear HM; rintro e w1 ⟨rfl, rfl⟩)
    go_ret
    exact ⟨rfl, rfl⟩
def usedN (zs : Zs) : Nat := (zs.map fun z => z.2.cs.length).sum
theorem usedN_take (zs : Zs) (k : Nat) (h : k < zs.length) : usedN (zs.take (k + 1)) = usedN (zs.take k) + zs[k].2.cs.length := by
  unfold usedN
  rw [List.take_succ_eq_append_getElem h, List.map_append, List.sum_append]
  simp
theorem usedN_le (zs : Zs) (k : Nat) : usedN (zs.take k) ≤ usedN zs := by
  have : usedN zs = usedN (zs.take k) + usedN (zs.drop k) := by
    unfold usedN
    rw [← List.sum_append, ← List.map_append, List.take_append_drop]
  omega
set_option maxRecDepth 100000 in
set_option maxHeartbeats 1000000 in
theorem used15_any {db vb : Nat} {fsv : Value} {zs : Zs} {most fuse : Int} {off : Bool} {w : World} (h : DAt db vb fsv zs most fuse off w) : Calls Tryz.prog 103 #[.pointer (some ⟨vb, 0, none⟩)] w fun e w' => e = .returned (.int .i64 (usedN zs : Nat)) ∧ w' = w := by
  have c1 := h.c1
  obtain ⟨a, c, rfl, h1, h2⟩ := h.form
  have hn := h.nf
  have HA : Hid (∀ i (hi : i < zs.length), ∃ q, a = some ⟨q, 0, none⟩ ∧ w.cell? ⟨q, i, none⟩ = some (.pointer (some ⟨zs[i].1.fb, 0, none⟩)) ∧ Calls Tryz.prog 47 #[.pointer (some ⟨zs[i].1.fb, 1, none⟩)] w fun e w' => e = .returned (.int .i64 (zs[i].2.cs.length : Nat)) ∧ w' = w) := hidb fun i hi => by
    obtain ⟨q, c', e, h3, _, h4, _⟩ := h.at_ i hi
    injection e with e _ _
    exact ⟨q, e, h3, count15_any _ _ _ h4⟩
  have HU : Hid (usedN zs ≤ 65536) := hidb h.us
  clear h
  obtain ⟨n, hn'⟩ : ∃ n, n = zs.length := ⟨_, rfl⟩
  rw [← hn'] at h1 hn c1
  have HN := hidb hn'
  clear hn'
  go_enter Tryz.func103, Tryz.ntmps103
  go_wp2_with fail
  go_loopw [3, 11] (fun sv' iv wr => ∃ k : Nat, sv' = .int .i64 (usedN (zs.take k) : Nat) ∧ iv = .int .i64 k ∧ k ≤ n ∧ wr = w) (fun _ iv _ => n - (intOf iv).toNat)
  case atStart => exact ⟨0, rfl, rfl, Nat.zero_le _, rfl⟩
  case round =>
    obtain ⟨k, rfl, rfl, hk, rfl⟩ := hrel
    by_cases hlt : k < n
    · have hm : k < zs.length := by rw [← HN.out]; omega
      obtain ⟨q, rfl, hc, HC⟩ := HA.out _ hm
      have HC := hidb HC
      have HT := hidb (usedN_take zs k hm)
      have hb : usedN (zs.take k) + zs[k].2.cs.length ≤ 65536 := by rw [← HT.out]; exact Nat.le_trans (usedN_le zs _) HU.out
      generalize zs[k].1.fb = fb at *
      generalize zs[k].2.cs.length = cl at *
      obtain ⟨u, hu⟩ : ∃ u, u = usedN (zs.take k) := ⟨_, rfl⟩
      rw [← hu] at hb HT ⊢
      clear hu
      go_wp2_with (first | (go_at_call 47; refine HC.out.mono ?_; rintro e w1 ⟨rfl, rfl⟩) | fail)
      refine ⟨⟨k + 1, by rw [HT.out]; first | rfl | go_num, by go_num, by omega, by first | rfl | trivial⟩, by simp [intOf]; omega⟩
    · have e : zs.take k = zs := List.take_of_length_le (by rw [← HN.out]; omega)
      rw [e]
      go_wp2_with fail
      go_ret
      exact ⟨rfl, rfl⟩
/-- Whether there is no room. -/
def fullB (zs : Zs) (most : Int) (n at_ : Nat) : Bool := (decide (at_ = n) && decide (most ≤ (usedN zs : Nat))) || (decide (n = 0) && decide (256 ≤ zs.length))
set_option maxRecDepth 100000 in
set_option maxHeartbeats 1000000 in
theorem isFull15_any {db vb : Nat} {fsv : Value} {zs : Zs} {most fuse : Int} {off : Bool} {w : World} (h : DAt db vb fsv zs most fuse off w) (g : Fg) (f : Fl) (hf : FlAt w g f) (at_ : Nat) : Calls Tryz.prog 78 #[.pointer (some ⟨vb, 0, none⟩), .pointer (some ⟨g.fb, 0, none⟩), .int .i64 at_] w fun e w' => e = .returned (.bool (fullB zs most f.cs.length at_)) ∧ ∃ m, w' = w.drewN m := by
  have c1 := h.c1
  have c0 := h.c0
  obtain ⟨a, c, rfl, h1, h2⟩ := h.form
  have hn := h.nf
  have HC := hidb fun m => count15_any (w.drewN m) g f (hf.keep fun _ _ => rfl)
  have HU := hidb fun m => used15_any (w := w.drewN m) (h.keep fun _ _ => rfl)
  have HC0 := hidb (count15_any w g f hf)
  have hl := hf.len
  have hus : usedN zs ≤ 65536 := h.us
  have hmo := h.mo
  clear h hf
  unfold fullB
  generalize zs.length = n at *
  generalize f.cs.length = cl at *
  generalize usedN zs = us at *
  clear HC0
  obtain ⟨t1, b1, r1⟩ : ∃ t : Bool, ((at_ : Int) == (cl : Int)) = t ∧ decide (at_ = cl) = t := ⟨_, by
      by_cases h : at_ = cl
      · simp [h]
      · simp [h]; omega, rfl⟩
  obtain ⟨t2, b2, r2⟩ : ∃ t : Bool, decide (most ≤ (us : Int)) = t ∧ decide (most ≤ (us : Int)) = t := ⟨_, rfl, rfl⟩
  obtain ⟨t3, b3, r3⟩ : ∃ t : Bool, ((cl : Int) == 0) = t ∧ decide (cl = 0) = t := ⟨_, by
      by_cases h : cl = 0
      · simp [h]
      · simp [h], rfl⟩
  obtain ⟨t4, b4, r4⟩ : ∃ t : Bool, decide ((256 : Int) ≤ (n : Int)) = t ∧ decide (256 ≤ n) = t := ⟨_, by
      by_cases h : 256 ≤ n
      · simp [h]; omega
      · simp [h]; omega, rfl⟩
  rw [r1, r2, r3, r4]
  clear r1 r2 r3 r4 hn
  cases t1 <;> cases t2 <;> cases t3 <;> cases t4 <;>
  · go_enter Tryz.func78, Tryz.ntmps78
    go_wp2_with fail
    go_quiet ((go_at_call 47; exact Calls.quiet_of_same (HC.out _)))
    have d0 : (w.drewN nq).cell? ⟨vb, 0, none⟩ = some (.int .i64 most) := c0
    have d1 : (w.drewN nq).cell? ⟨vb, 1, none⟩ = some (.slice a n c) := c1
    have HU2 : Hid (∀ m, Calls Tryz.prog 103 #[.pointer (some ⟨vb, 0, none⟩)] ((w.drewN nq).drewN m) fun e w' => e = .returned (.int .i64 us) ∧ w' = (w.drewN nq).drewN m) := hidb fun m => by rw [World.drewN_drewN]; exact HU.out (nq + m)
    have HE : Hid (∀ m, ∃ k, (w.drewN nq).drewN m = w.drewN k) := hidb fun m => ⟨nq + m, by rw [World.drewN_drewN]⟩
    clear HU c0 c1
    generalize w.drewN nq = wq at *
    go_wp2_with fail
    go_quiet ((go_at_call 103; exact Calls.quiet_of_same (HU2.out _)))
    go_wp2_with fail
    go_ret
    exact ⟨rfl, HE.out _⟩
/-- What an operation leaves of the fuse. -/
def burnF (fuse : Int) : Int := if 0 < fuse then fuse - 1 else fuse
set_option maxRecDepth 100000 in
theorem burn15_both {own : Nat → Prop} {db vb : Nat} {fsv : Value} {zs : Zs} {most fuse : Int} {off : Bool} {w W : World} (h : DMid own db vb fsv zs most fuse off w W) : Calls Tryz.prog 59 #[.pointer (some ⟨vb, 0, none⟩)] W fun e w' => e = .returned (.int .i64 (if fuse = 0 then 9 else 0)) ∧ Hid (DMid own db vb fsv zs most (burnF fuse) (if fuse = 0 then true else off) w w' ∧ Kt (fun i => i = vb) W w') := by
  have c2 := h.at_.c2
  have c3 := h.at_.c3
  have f2 := h.at_.fr 2
  have f3 := h.at_.fr 3
  have hfu := h.at_.fu
  have bx := h.at_.vbox
  by_cases h0 : fuse = 0
  · have HE : Hid (DMid own db vb fsv zs most (burnF fuse) true w (W.setCell ⟨vb, 3, none⟩ (.bool true)) ∧ Kt (fun i => i = vb) W (W.setCell ⟨vb, 3, none⟩ (.bool true))) := hidb (And.intro (h.box (by rw [heap_setCell_same _ _ _ _ _ _ bx, h0]; rfl) ((Kt.refl _ _).set fun _ => rfl) (by rw [h0]; decide)) ((Kt.refl _ _).set fun _ => rfl))
    rw [if_pos h0, if_pos h0]
    clear h bx
    subst h0
    go_enter Tryz.func59, Tryz.ntmps59
    go_wp2_with fail
    go_ret
    exact ⟨rfl, HE⟩
  · rw [if_neg h0, if_neg h0]
    by_cases h1 : 0 < fuse
    · have HE : Hid (DMid own db vb fsv zs most (burnF fuse) off w (W.setCell ⟨vb, 2, none⟩ (.int .i64 (fuse - 1))) ∧ Kt (fun i => i = vb) W (W.setCell ⟨vb, 2, none⟩ (.int .i64 (fuse - 1)))) := hidb (And.intro (h.box (by rw [heap_setCell_same _ _ _ _ _ _ bx, burnF, if_pos h1]; rfl) ((Kt.refl _ _).set fun _ => rfl) (by rw [burnF, if_pos h1]; omega)) ((Kt.refl _ _).set fun _ => rfl))
      have hz : (fuse == 0) = false := by simpa using h0
      have hw : wrap64 (fuse - 1) = fuse - 1 := by unfold wrap64; omega
      clear h bx
      go_enter Tryz.func59, Tryz.ntmps59
      go_wp2_with fail
      go_ret
      first | exact ⟨rfl, HE⟩ | (rw [hw]; exact ⟨rfl, HE⟩)
    · have HE : Hid (DMid own db vb fsv zs most (burnF fuse) off w W ∧ Kt (fun i => i = vb) W W) := hidb ⟨by rw [burnF, if_neg h1]; exact h, Kt.refl _ _⟩
      have hz : (fuse == 0) = false := by simpa using h0
      clear h bx
      go_enter Tryz.func59, Tryz.ntmps59
      go_wp2_with fail
      go_ret
      exact ⟨rfl, HE⟩
theorem burn15_any {own : Nat → Prop} {db vb : Nat} {fsv : Value} {zs : Zs} {most fuse : Int} {off : Bool} {w W : World} (h : DMid own db vb fsv zs most fuse off w W) : Calls Tryz.prog 59 #[.pointer (some ⟨vb, 0, none⟩)] W fun e w' => e = .returned (.int .i64 (if fuse = 0 then 9 else 0)) ∧ Hid (DMid own db vb fsv zs most (burnF fuse) (if fuse = 0 then true else off) w w') := (burn15_both h).mono fun _ _ ⟨e, H⟩ => ⟨e, hidb H.out.1⟩
end Go.Proofs.YthmjejmignangaaGreatDoor
