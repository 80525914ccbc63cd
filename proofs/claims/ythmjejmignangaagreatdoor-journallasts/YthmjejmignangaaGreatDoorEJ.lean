/- Layer 15: the disk in memory; where a file stands. Layer 15: the disk's small functions. -/
import Derived.Test.YthmjejmignangaaGreatDoorEI
import Derived.Test.YthmjejmignangaaGreatDoorShelfc
namespace Go.Proofs.YthmjejmignangaaGreatDoor
open Go.RowKit
/-- Names that rise. -/
def klt (a b : Bt) : Prop := Lib.compareBytes a b < 0
theorem cmp_self (a : Bt) : Lib.compareBytes a a = 0 := by
  induction a with
  | nil => rfl
  | cons x a ih => simp [Lib.compareBytes, ih, UInt8.lt_irrefl]
theorem cmp_eq : ∀ {a b : Bt}, Lib.compareBytes a b = 0 → a = b
  | [], [], _ => rfl
  | [], _ :: _, h => by simp [Lib.compareBytes] at h
  | _ :: _, [], h => by simp [Lib.compareBytes] at h
  | a :: xs, b :: ys, h => by
    unfold Lib.compareBytes at h
    split at h
    · cases h
    · split at h
      · cases h
      · rename_i h1 h2
        have : a = b := UInt8.le_antisymm (UInt8.not_lt.1 h2) (UInt8.not_lt.1 h1)
        rw [this, cmp_eq h]
theorem klt_trans : ∀ {a b c : Bt}, klt a b → klt b c → klt a c
  | [], [], _, h, _ => by simp [klt, Lib.compareBytes] at h
  | [], _ :: _, [], _, h => by simp [klt, Lib.compareBytes] at h
  | [], _ :: _, _ :: _, _, _ => by simp [klt, Lib.compareBytes]
  | _ :: _, [], _, h, _ => by simp [klt, Lib.compareBytes] at h
  | _ :: _, _ :: _, [], _, h => by simp [klt, Lib.compareBytes] at h
  | a :: xs, b :: ys, c :: zs, h1, h2 => by
    unfold klt Lib.compareBytes at *
    by_cases e1 : a < b
    · by_cases e2 : b < c
      · rw [if_pos (UInt8.lt_trans e1 e2)]; decide
      · rw [if_neg e2] at h2
        by_cases e3 : c < b
        · rw [if_pos e3] at h2; cases h2
        · have : b = c := UInt8.le_antisymm (UInt8.not_lt.1 e3) (UInt8.not_lt.1 e2)
          subst this
          rw [if_pos e1]; decide
    · rw [if_neg e1] at h1
      by_cases e4 : b < a
      · rw [if_pos e4] at h1; cases h1
      · have : a = b := UInt8.le_antisymm (UInt8.not_lt.1 e4) (UInt8.not_lt.1 e1)
        subst this
        rw [if_neg e4] at h1
        by_cases e2 : a < c
        · rw [if_pos e2]; decide
        · rw [if_neg e2] at h2 ⊢
          by_cases e3 : c < a
          · rw [if_pos e3] at h2; cases h2
          · rw [if_neg e3] at h2 ⊢
            exact klt_trans (a := xs) (b := ys) (c := zs) h1 h2
theorem klt_irr (a : Bt) : ¬ klt a a := by unfold klt; rw [cmp_self]; decide
abbrev Zs := List (Fg × Fl)
/-- The disk lies there. -/
structure DAt (db vb : Nat) (fsv : Value) (zs : Zs) (most fuse : Int) (off : Bool) (w : World) : Prop where
  dbox : w.heap[db]? = some (.cells #[.pointer (some ⟨vb, 0, none⟩)] 43 (0, 0))
  vbox : w.heap[vb]? = some (.cells #[.int .i64 most, fsv, .int .i64 fuse, .bool off] 109 (0, 0))
  row : w.ownsRow 0 110 1 fsv zs.length (zs.map fun z => .pointer (some ⟨z.1.fb, 0, none⟩))
  fl : ∀ z ∈ zs, FlAt w z.1 z.2
  apart : zs.Pairwise fun a b => ∀ k, a.1.has k → ¬ b.1.has k
  own : ∀ z ∈ zs, ∀ k, z.1.has k → k ≠ db ∧ k ≠ vb ∧ fsv.ownBlock ≠ some k
  o1 : db ≠ vb
  o2 : fsv.ownBlock ≠ some db
  o3 : fsv.ownBlock ≠ some vb
  srt : zs.Pairwise fun a b => klt a.2.name b.2.name
  nf : zs.length ≤ 256
  us : (zs.map fun z => z.2.cs.length).sum ≤ 65536
  mo : most ≤ 65536
  fu : -9223372036854775808 ≤ fuse ∧ fuse ≤ 9223372036854775807
/-- The blocks that are the disk's. -/
def DOwn (db vb : Nat) (fsv : Value) (zs : Zs) (k : Nat) : Prop := k = db ∨ k = vb ∨ fsv.ownBlock = some k ∨ ∃ z ∈ zs, z.1.has k
section
variable {db vb : Nat} {fsv : Value} {zs : Zs} {most fuse : Int} {off : Bool} {w : World}
theorem DAt.lts (h : DAt db vb fsv zs most fuse off w) : ∀ k, DOwn db vb fsv zs k → k < w.heap.size := by
  intro k hk
  rcases hk with rfl | rfl | e | ⟨z, hz, e⟩
  · exact heap_ltb h.dbox
  · exact heap_ltb h.vbox
  · exact (h.row.lt k e).2
  · exact (h.fl z hz).lts k e
theorem DAt.keep {w' : World} (h : DAt db vb fsv zs most fuse off w) (e : ∀ k, DOwn db vb fsv zs k → w'.heap[k]? = w.heap[k]?) : DAt db vb fsv zs most fuse off w' :=
  ⟨(e _ (.inl rfl)).trans h.dbox, (e _ (.inr (.inl rfl))).trans h.vbox, row_keep h.row fun k hk => e k (.inr (.inr (.inl hk))), fun z hz => (h.fl z hz).keep fun k hk => e k (.inr (.inr (.inr ⟨z, hz, hk⟩))), h.apart, h.own, h.o1, h.o2, h.o3, h.srt, h.nf, h.us, h.mo, h.fu⟩
theorem DAt.below {w' : World} (h : DAt db vb fsv zs most fuse off w) (k : Below w.heap.size w w') : DAt db vb fsv zs most fuse off w' := h.keep fun i hi => k.block i (h.lts i hi)
theorem DAt.cd (h : DAt db vb fsv zs most fuse off w) : w.cell? ⟨db, 0, none⟩ = some (.pointer (some ⟨vb, 0, none⟩)) := Lib.cell_of_heap h.dbox 0
theorem DAt.c0 (h : DAt db vb fsv zs most fuse off w) : w.cell? ⟨vb, 0, none⟩ = some (.int .i64 most) := Lib.cell_of_heap h.vbox 0
theorem DAt.c1 (h : DAt db vb fsv zs most fuse off w) : w.cell? ⟨vb, 1, none⟩ = some fsv := Lib.cell_of_heap h.vbox 1
theorem DAt.c2 (h : DAt db vb fsv zs most fuse off w) : w.cell? ⟨vb, 2, none⟩ = some (.int .i64 fuse) := Lib.cell_of_heap h.vbox 2
theorem DAt.c3 (h : DAt db vb fsv zs most fuse off w) : w.cell? ⟨vb, 3, none⟩ = some (.bool off) := Lib.cell_of_heap h.vbox 3
theorem DAt.fr (h : DAt db vb fsv zs most fuse off w) (j : Nat) : w.frozen? ⟨vb, j, none⟩ = false := Lib.frozen_of_heap h.vbox j
theorem DAt.form (h : DAt db vb fsv zs most fuse off w) : ∃ a c, fsv = .slice a zs.length c ∧ zs.length ≤ c ∧ c ≤ maxLen := by
  obtain ⟨a, c, e, h1, h2, _⟩ := row_form h.row
  exact ⟨a, c, e, h1, h2⟩
/-- The place of the i-th file. -/
theorem DAt.at_ (h : DAt db vb fsv zs most fuse off w) (i : Nat) (hi : i < zs.length) : ∃ q c, fsv = .slice (some ⟨q, 0, none⟩) zs.length c ∧ w.cell? ⟨q, i, none⟩ = some (.pointer (some ⟨zs[i].1.fb, 0, none⟩)) ∧ w.frozen? ⟨q, i, none⟩ = false ∧ FlAt w zs[i].1 zs[i].2 ∧ q < w.heap.size := by
  rcases h.row.2 with ⟨_, e⟩ | ⟨q, c, cur, e, _, hh, _⟩
  · omega
  · have r := h.row
    rw [e] at r
    refine ⟨q, c, e, ?_, r.frozenAt i, h.fl _ (List.getElem_mem hi), heap_ltb hh⟩
    rw [r.cellAt i (by omega), List.getElem?_map, List.getElem?_eq_getElem hi]
    rfl
end
theorem closure15 (fb : Nat) (nm name : Bt) (w : World) (h : w.cell? ⟨fb, 0, none⟩ = some (sv nm)) : Calls Tryz.prog 83 #[.pointer (some ⟨fb, 0, none⟩), sv name] w fun e w' => e = .returned (.int .i64 (Lib.compareBytes nm name)) ∧ w' = w := by
  have HC := hidb (Tryz.strings_Compare ⟨nm.toArray⟩ ⟨name.toArray⟩ w)
  go_enter Tryz.func83, Tryz.ntmps83
  go_wp2_with (go_at_call 84; refine HC.out.mono ?_; clear HC; rintro e w' ⟨rfl, rfl⟩)
  go_ret
  exact ⟨rfl, rfl⟩
/-- Where a name stands, or would, and whether it is there. -/
structure Fnd (zs : Zs) (name : Bt) (p : Nat) (b : Bool) : Prop where
  le : p ≤ zs.length
  lo : ∀ t (h : t < zs.length), t < p → klt zs[t].2.name name
  hi : ∀ t (h : t < zs.length), p ≤ t → ¬ klt zs[t].2.name name
  yes : b = true → ∃ h : p < zs.length, zs[p].2.name = name
  no : b = false → ∀ h : p < zs.length, zs[p].2.name ≠ name
theorem srt_lt {zs : Zs} (h : zs.Pairwise fun a b => klt a.2.name b.2.name) {i j : Nat} (hi : i < zs.length) (hj : j < zs.length) (e : i < j) : klt zs[i].2.name zs[j].2.name := List.pairwise_iff_getElem.1 h i j hi hj e
set_option maxRecDepth 100000 in
set_option maxHeartbeats 1000000 in
theorem bsearch15 (db vb : Nat) (fsv : Value) (zs : Zs) (most fuse : Int) (off : Bool) (w : World) (name : Bt) (h : DAt db vb fsv zs most fuse off w) : Calls Tryz.prog 82 #[fsv, sv name, .func (.func 83) #[] #[]] w fun e w' => ∃ (p : Nat) (b : Bool), e = .returned (.tuple #[.int .i64 p, .bool b]) ∧ w' = w ∧ Hid (Fnd zs name p b) := by
  obtain ⟨a, c, rfl, h1, h2⟩ := h.form
  have hn := h.nf
  have eF : ∀ args w, (callFunc 83 args).run Tryz.prog w = .ok (.enter 83 args) w := enters_of Tryz.func83 (by kernel_rfl) rfl
  have HA : Hid (∀ i (hi : i < zs.length), ∃ q, a = some ⟨q, 0, none⟩ ∧ w.cell? ⟨q, i, none⟩ = some (.pointer (some ⟨zs[i].1.fb, 0, none⟩)) ∧ Calls Tryz.prog 83 #[.pointer (some ⟨zs[i].1.fb, 0, none⟩), sv name] w fun e w' => e = .returned (.int .i64 (Lib.compareBytes zs[i].2.name name)) ∧ w' = w) := hidb fun i hi => by
    obtain ⟨q, c', e, h3, _, h4, _⟩ := h.at_ i hi
    injection e with e _ _
    exact ⟨q, e, h3, closure15 _ _ _ _ h4.c0⟩
  have HS := hidb h.srt
  clear h
  obtain ⟨n, hn'⟩ : ∃ n, n = zs.length := ⟨_, rfl⟩
  rw [← hn'] at h1 hn ⊢
  have HN := hidb hn'
  clear hn'
  go_enter Tryz.func82, Tryz.ntmps82
  go_wp2_with fail
  go_loopg [9, 10] n (fun kx s9 s10 wr => ∃ lo hi : Nat, s9 = .int .i64 lo ∧ s10 = .int .i64 hi ∧ lo ≤ hi ∧ hi ≤ n ∧ hi - lo ≤ kx ∧ wr = w ∧ Hid ((∀ t (h : t < zs.length), t < lo → klt zs[t].2.name name) ∧ (∀ t (h : t < zs.length), hi ≤ t → ¬ klt zs[t].2.name name)))
  case atStart => exact ⟨0, n, rfl, rfl, Nat.zero_le _, Nat.le_refl _, by omega, rfl, hidb ⟨fun t _ ht => absurd ht (Nat.not_lt_zero _), fun t h1 h2 => by rw [HN.out] at h2; omega⟩⟩
  case round =>
    obtain ⟨lo, hi, rfl, rfl, hlh, hin, hg, rfl, I⟩ := hrel
    by_cases hlt : lo < hi
    · have hm : (lo + hi) / 2 < zs.length := by rw [← HN.out]; omega
      obtain ⟨q, rfl, hc, HC⟩ := HA.out _ hm
      have HC := hidb HC
      obtain ⟨nm, hnm⟩ : ∃ nm, nm = zs[(lo + hi) / 2].2.name := ⟨_, rfl⟩
      rw [← hnm] at HC
      have HM := hidb hnm
      clear hnm
      generalize zs[(lo + hi) / 2].1.fb = fb at *
      by_cases hyx : Lib.compareBytes nm name < 0
      · go_wp2_with (go_at_fn 83; refine HC.out.mono ?_; rintro e w' ⟨rfl, rfl⟩)
        go_roundg (hi - ((lo + hi) / 2 + 1))
        case measure => omega
        case rel =>
          refine ⟨(lo + hi) / 2 + 1, hi, by rw [show ((lo : Int) + (hi : Int)) / 2 + 1 = (((lo + hi) / 2 + 1 : Nat) : Int) by omega], rfl, by omega, hin, Nat.le_refl _, rfl, hidb ⟨fun t ht htl => ?_, I.out.2⟩⟩
          have hk : klt zs[(lo + hi) / 2].2.name name := by rw [← HM.out]; exact hyx
          by_cases e : t = (lo + hi) / 2
          · subst e; exact hk
          · exact klt_trans (srt_lt HS.out ht hm (by omega)) hk
      · go_wp2_with (go_at_fn 83; refine HC.out.mono ?_; rintro e w' ⟨rfl, rfl⟩)
        go_roundg ((lo + hi) / 2 - lo)
        case measure => omega
        case rel =>
          refine ⟨lo, (lo + hi) / 2, rfl, by rw [show ((lo : Int) + (hi : Int)) / 2 = (((lo + hi) / 2 : Nat) : Int) by omega], by omega, by omega, Nat.le_refl _, rfl, hidb ⟨I.out.1, fun t ht htl hk => ?_⟩⟩
          have hk2 : ¬ klt zs[(lo + hi) / 2].2.name name := by rw [← HM.out]; unfold klt; omega
          by_cases e : t = (lo + hi) / 2
          · subst e; exact hk2 hk
          · exact hk2 (klt_trans (srt_lt HS.out hm ht (by omega)) hk)
    · obtain rfl : lo = hi := by omega
      by_cases hln : lo < n
      · have hm : lo < zs.length := by rw [← HN.out]; omega
        obtain ⟨q, rfl, hc, HC⟩ := HA.out _ hm
        have HC := hidb HC
        obtain ⟨nm, hnm⟩ : ∃ nm, nm = zs[lo].2.name := ⟨_, rfl⟩
        rw [← hnm] at HC
        have HM := hidb hnm
        clear hnm
        generalize zs[lo].1.fb = fb at *
        by_cases hyx : Lib.compareBytes nm name = 0
        · rw [hyx] at HC
          have HE : Hid (Fnd zs name lo true) := hidb ⟨by omega, I.out.1, I.out.2, fun _ => ⟨hm, by rw [← HM.out]; exact cmp_eq hyx⟩, fun e => by cases e⟩
          go_wp2_with (go_at_fn 83; refine HC.out.mono ?_; rintro e w' ⟨rfl, rfl⟩)
          go_ret2
          exact ⟨lo, true, rfl, rfl, HE⟩
        · have HE : Hid (Fnd zs name lo false) := hidb ⟨by omega, I.out.1, I.out.2, fun e => (by cases e), fun _ _ e => hyx (by rw [HM.out, e]; exact cmp_self _)⟩
          have hz : (Lib.compareBytes nm name == 0) = false := by simpa using hyx
          go_wp2_with (go_at_fn 83; refine HC.out.mono ?_; rintro e w' ⟨rfl, rfl⟩)
          go_ret2
          exact ⟨lo, false, by simp, rfl, HE⟩
      · have HE : Hid (Fnd zs name lo false) := hidb ⟨by rw [← HN.out]; omega, I.out.1, I.out.2, fun e => (by cases e), fun _ h => by rw [← HN.out] at h; omega⟩
        go_wp2_with fail
        go_ret2
        exact ⟨lo, false, by simp, rfl, HE⟩
theorem find15_any (db vb : Nat) (fsv : Value) (zs : Zs) (most fuse : Int) (off : Bool) (w : World) (name : Bt) (h : DAt db vb fsv zs most fuse off w) : Calls Tryz.prog 57 #[.pointer (some ⟨vb, 0, none⟩), sv name] w fun e w' => ∃ (p : Nat) (b : Bool), e = .returned (.tuple #[.int .i64 p, .bool b]) ∧ w' = w ∧ Hid (Fnd zs name p b) := by
  have c1 := h.c1
  have HB := hidb (bsearch15 db vb fsv zs most fuse off w name h)
  clear h
  go_enter Tryz.func57, Tryz.ntmps57
  go_wp2_with (go_at_call 82; refine HB.out.mono ?_; clear HB; rintro e w' ⟨p, b, rfl, rfl, H⟩)
  go_ret2
  exact ⟨p, b, rfl, rfl, H⟩
end Go.Proofs.YthmjejmignangaaGreatDoor
namespace Go.Proofs.YthmjejmignangaaGreatDoor
open Go.RowKit
/-- On the way from w to W the disk's own blocks alone have turned. -/
structure DMid (own : Nat → Prop) (db vb : Nat) (fsv : Value) (zs : Zs) (most fuse : Int) (off : Bool) (w W : World) : Prop where
  at_ : DAt db vb fsv zs most fuse off W
  has : ∀ k, DOwn db vb fsv zs k → own k ∨ w.heap.size ≤ k
  kt : Kt own w W
section
variable {own : Nat → Prop} {db vb : Nat} {fsv : Value} {zs : Zs} {most fuse : Int} {off : Bool} {w W W' : World}
theorem DMid.start (h : DAt db vb fsv zs most fuse off w) : DMid (DOwn db vb fsv zs) db vb fsv zs most fuse off w w := ⟨h, fun _ h => .inl h, Kt.refl _ _⟩
theorem DMid.below (h : DMid own db vb fsv zs most fuse off w W) (k : Below W.heap.size W W') : DMid own db vb fsv zs most fuse off w W' := ⟨h.at_.below k, h.has, h.kt.trans (Kt.below (S := own) k) fun _ _ x => x⟩
theorem DMid.kts {R : Nat → Prop} (h : DMid own db vb fsv zs most fuse off w W) (k : Kt R W W') (hr : ∀ i, R i → DOwn db vb fsv zs i) : Kt own w W' := h.kt.trans k fun i hi x => (h.has i (hr i x)).resolve_right (by omega)
/-- A file has turned. -/
theorem DMid.upd {A B : Zs} {g : Fg} {f f' : Fl} (h : DMid own db vb fsv (A ++ (g, f) :: B) most fuse off w W) (k : FEnd g f' W W') (hn : f'.name = f.name) (hs : (A.map fun z => z.2.cs.length).sum + f'.cs.length + (B.map fun z => z.2.cs.length).sum ≤ 65536) : ∃ g', g'.fb = g.fb ∧ DMid own db vb fsv (A ++ (g', f') :: B) most fuse off w W' := by
  obtain ⟨g', k⟩ := k
  have H := h.at_
  have hap := H.apart
  rw [List.pairwise_append, List.pairwise_cons] at hap
  have hga : ∀ z ∈ A, ∀ i, z.1.has i → ¬ g.has i := fun z hz i hi => hap.2.2 z hz (g, f) (by simp) i hi
  have hgb : ∀ z ∈ B, ∀ i, g.has i → ¬ z.1.has i := fun z hz i hi => hap.2.1.1 z hz i hi
  have hlt : ∀ i, DOwn db vb fsv (A ++ (g, f) :: B) i → i < W.heap.size := H.lts
  have hmem : ∀ z, z ∈ A ∨ z ∈ B → z ∈ A ++ (g, f) :: B := fun z hz => by rcases hz with x | x <;> simp [x]
  have hno : ∀ z, z ∈ A ∨ z ∈ B → ∀ i, z.1.has i → ¬ g.has i := fun z hz i hi => by
    rcases hz with x | x
    · exact hga z x i hi
    · exact fun y => hgb z x i y hi
  have keepB : ∀ i, i < W.heap.size → ¬ g.has i → W'.heap[i]? = W.heap[i]? := fun i hi hg => k.kt.block i hi hg
  have hg0 := H.own (g, f) (by simp)
  have keepD : ∀ i, i = db ∨ i = vb ∨ fsv.ownBlock = some i → W'.heap[i]? = W.heap[i]? := fun i hi => by
    refine keepB i (hlt i (by rcases hi with x | x | x; exact .inl x; exact .inr (.inl x); exact .inr (.inr (.inl x)))) fun hg => ?_
    obtain ⟨a1, a2, a3⟩ := hg0 i hg
    rcases hi with x | x | x
    · exact a1 x
    · exact a2 x
    · exact a3 x
  have new : ∀ i, g'.has i → g.has i ∨ W.heap.size ≤ i := k.has
  refine ⟨g', k.fb, ⟨(keepD db (.inl rfl)).trans H.dbox, (keepD vb (.inr (.inl rfl))).trans H.vbox, ?_, ?_, ?_, ?_, H.o1, H.o2, H.o3, ?_, ?_, ?_, H.mo, H.fu⟩, ?_, ?_⟩
  · have e : (A ++ (g', f') :: B).map (fun z => Value.pointer (some ⟨z.1.fb, 0, none⟩)) = (A ++ (g, f) :: B).map fun z => Value.pointer (some ⟨z.1.fb, 0, none⟩) := by simp [k.fb]
    rw [e, show (A ++ (g', f') :: B).length = (A ++ (g, f) :: B).length by simp]
    exact row_keep H.row fun i hi => keepD i (.inr (.inr hi))
  · intro z hz
    simp only [List.mem_append, List.mem_cons] at hz
    rcases hz with x | rfl | x
    · exact (H.fl z (hmem z (.inl x))).keep fun i hi => keepB i (hlt i (.inr (.inr (.inr ⟨z, hmem z (.inl x), hi⟩)))) (hno z (.inl x) i hi)
    · exact k.at_
    · exact (H.fl z (hmem z (.inr x))).keep fun i hi => keepB i (hlt i (.inr (.inr (.inr ⟨z, hmem z (.inr x), hi⟩)))) (hno z (.inr x) i hi)
  · rw [List.pairwise_append, List.pairwise_cons]
    refine ⟨hap.1, ⟨fun z hz i hi hz2 => ?_, hap.2.1.2⟩, fun a ha b hb i hi hb2 => ?_⟩
    · rcases new i hi with y | y
      · exact hgb z hz i y hz2
      · have := hlt i (.inr (.inr (.inr ⟨z, hmem z (.inr hz), hz2⟩))); omega
    · rcases List.mem_cons.1 hb with rfl | x
      · rcases new i hb2 with y | y
        · exact hga a ha i hi y
        · have := hlt i (.inr (.inr (.inr ⟨a, hmem a (.inl ha), hi⟩))); omega
      · exact hap.2.2 a ha b (by simp [x]) i hi hb2
  · intro z hz i hi
    simp only [List.mem_append, List.mem_cons] at hz
    rcases hz with x | rfl | x
    · exact H.own z (hmem z (.inl x)) i hi
    · rcases new i hi with y | y
      · exact hg0 i y
      · have l1 := hlt db (.inl rfl)
        have l2 := hlt vb (.inr (.inl rfl))
        exact ⟨by omega, by omega, fun e => by have := hlt i (.inr (.inr (.inl e))); omega⟩
    · exact H.own z (hmem z (.inr x)) i hi
  · have := H.srt
    rw [List.pairwise_append, List.pairwise_cons] at this ⊢
    refine ⟨this.1, ⟨fun z hz => by simp only [hn]; exact this.2.1.1 z hz, this.2.1.2⟩, fun a ha b hb => ?_⟩
    rcases List.mem_cons.1 hb with rfl | x
    · simp only [hn]; exact this.2.2 a ha (g, f) (by simp)
    · exact this.2.2 a ha b (by simp [x])
  · have := H.nf
    simpa using this
  · simp only [List.map_append, List.map_cons, List.sum_append, List.sum_cons]
    omega
  · intro i hi
    rcases hi with x | x | x | ⟨z, hz, x⟩
    · exact h.has i (.inl x)
    · exact h.has i (.inr (.inl x))
    · exact h.has i (.inr (.inr (.inl x)))
    · simp only [List.mem_append, List.mem_cons] at hz
      rcases hz with y | rfl | y
      · exact h.has i (.inr (.inr (.inr ⟨z, hmem z (.inl y), x⟩)))
      · rcases new i x with u | u
        · exact h.has i (.inr (.inr (.inr ⟨(g, f), by simp, u⟩)))
        · exact .inr (Nat.le_trans h.kt.size u)
      · exact h.has i (.inr (.inr (.inr ⟨z, hmem z (.inr y), x⟩)))
  · exact h.kts k.kt fun i hi => .inr (.inr (.inr ⟨(g, f), by simp, hi⟩))
/-- The drive's box has turned. -/
theorem DMid.box {fuse' : Int} {off' : Bool} (h : DMid own db vb fsv zs most fuse off w W) (hb : W'.heap[vb]? = some (.cells #[.int .i64 most, fsv, .int .i64 fuse', .bool off'] 109 (0, 0))) (k : Kt (fun i => i = vb) W W') (hf : -9223372036854775808 ≤ fuse' ∧ fuse' ≤ 9223372036854775807) : DMid own db vb fsv zs most fuse' off' w W' := by
  have H := h.at_
  refine ⟨⟨(k.block db (heap_ltb H.dbox) H.o1).trans H.dbox, hb, row_keep H.row fun i hi => k.block i (H.row.lt i hi).2 (fun e => H.o3 (by rw [hi, e])), fun z hz => (H.fl z hz).kt k fun i hi => (H.own z hz i hi).2.1, H.apart, H.own, H.o1, H.o2, H.o3, H.srt, H.nf, H.us, H.mo, hf⟩, h.has, h.kts k fun i hi => .inr (.inl hi)⟩
end
theorem made15_any (db vb : Nat) (w : World) (c : w.cell? ⟨db, 0, none⟩ = some (.pointer (some ⟨vb, 0, none⟩))) : Calls Tryz.prog 43 #[.pointer (some ⟨db, 0, none⟩)] w fun e w' => e = .returned (.bool true) ∧ w' = w := by
  go_enter Tryz.func43, Tryz.ntmps43
  go_wp2_with fail
  go_ret
  exact ⟨rfl, rfl⟩
theorem ready15_any {db vb : Nat} {fsv : Value} {zs : Zs} {most fuse : Int} {off : Bool} {w : World} (h : DAt db vb fsv zs most fuse off w) : Calls Tryz.prog 56 #[.pointer (some ⟨db, 0, none⟩)] w fun e w' => e = .returned (.int .i64 (if off then 9 else 0)) ∧ w' = w := by
  have cd := h.cd
  have c3 := h.c3
  have HM := hidb (made15_any db vb w cd)
  cases off <;>
  · go_enter Tryz.func56, Tryz.ntmps56
    go_wp2_with (go_at_call 43; refine HM.out.mono ?_; clear HM; rintro e w1 ⟨rfl, rfl⟩)
    go_ret
    exact ⟨rfl, rfl⟩
def usedN (zs : Zs) : Nat := (zs.map fun z => z.2.cs.length).sum
theorem usedN_take (zs : Zs) (k : Nat) (h : k < zs.length) : usedN (zs.take (k + 1)) = usedN (zs.take k) + zs[k].2.cs.length := by
  unfold usedN
  rw [List.take_succ_eq_append_getElem h, List.map_append, List.sum_append]
  simp
theorem usedN_le (zs : Zs) (k : Nat) : usedN (zs.take k) ≤ usedN zs := by
  have : usedN zs = usedN (zs.take k) + usedN (zs.drop k) := by
    unfold usedN
    rw [← List.sum_append, ← List.map_append, List.take_append_drop]
  omega
set_option maxRecDepth 100000 in
set_option maxHeartbeats 1000000 in
theorem used15_any {db vb : Nat} {fsv : Value} {zs : Zs} {most fuse : Int} {off : Bool} {w : World} (h : DAt db vb fsv zs most fuse off w) : Calls Tryz.prog 103 #[.pointer (some ⟨vb, 0, none⟩)] w fun e w' => e = .returned (.int .i64 (usedN zs : Nat)) ∧ w' = w := by
  have c1 := h.c1
  obtain ⟨a, c, rfl, h1, h2⟩ := h.form
  have hn := h.nf
  have HA : Hid (∀ i (hi : i < zs.length), ∃ q, a = some ⟨q, 0, none⟩ ∧ w.cell? ⟨q, i, none⟩ = some (.pointer (some ⟨zs[i].1.fb, 0, none⟩)) ∧ Calls Tryz.prog 47 #[.pointer (some ⟨zs[i].1.fb, 1, none⟩)] w fun e w' => e = .returned (.int .i64 (zs[i].2.cs.length : Nat)) ∧ w' = w) := hidb fun i hi => by
    obtain ⟨q, c', e, h3, _, h4, _⟩ := h.at_ i hi
    injection e with e _ _
    exact ⟨q, e, h3, count15_any _ _ _ h4⟩
  have HU : Hid (usedN zs ≤ 65536) := hidb h.us
  clear h
  obtain ⟨n, hn'⟩ : ∃ n, n = zs.length := ⟨_, rfl⟩
  rw [← hn'] at h1 hn c1
  have HN := hidb hn'
  clear hn'
  go_enter Tryz.func103, Tryz.ntmps103
  go_wp2_with fail
  go_loopw [3, 11] (fun sv' iv wr => ∃ k : Nat, sv' = .int .i64 (usedN (zs.take k) : Nat) ∧ iv = .int .i64 k ∧ k ≤ n ∧ wr = w) (fun _ iv _ => n - (intOf iv).toNat)
  case atStart => exact ⟨0, rfl, rfl, Nat.zero_le _, rfl⟩
  case round =>
    obtain ⟨k, rfl, rfl, hk, rfl⟩ := hrel
    by_cases hlt : k < n
    · have hm : k < zs.length := by rw [← HN.out]; omega
      obtain ⟨q, rfl, hc, HC⟩ := HA.out _ hm
      have HC := hidb HC
      have HT := hidb (usedN_take zs k hm)
      have hb : usedN (zs.take k) + zs[k].2.cs.length ≤ 65536 := by rw [← HT.out]; exact Nat.le_trans (usedN_le zs _) HU.out
      generalize zs[k].1.fb = fb at *
      generalize zs[k].2.cs.length = cl at *
      obtain ⟨u, hu⟩ : ∃ u, u = usedN (zs.take k) := ⟨_, rfl⟩
      rw [← hu] at hb HT ⊢
      clear hu
      go_wp2_with (first | (go_at_call 47; refine HC.out.mono ?_; rintro e w1 ⟨rfl, rfl⟩) | fail)
      refine ⟨⟨k + 1, by rw [HT.out]; first | rfl | go_num, by go_num, by omega, by first | rfl | trivial⟩, by simp [intOf]; omega⟩
    · have e : zs.take k = zs := List.take_of_length_le (by rw [← HN.out]; omega)
      rw [e]
      go_wp2_with fail
      go_ret
      exact ⟨rfl, rfl⟩
/-- Whether there is no room. -/
def fullB (zs : Zs) (most : Int) (n at_ : Nat) : Bool := (decide (at_ = n) && decide (most ≤ (usedN zs : Nat))) || (decide (n = 0) && decide (256 ≤ zs.length))
set_option maxRecDepth 100000 in
set_option maxHeartbeats 1000000 in
theorem isFull15_any {db vb : Nat} {fsv : Value} {zs : Zs} {most fuse : Int} {off : Bool} {w : World} (h : DAt db vb fsv zs most fuse off w) (g : Fg) (f : Fl) (hf : FlAt w g f) (at_ : Nat) : Calls Tryz.prog 78 #[.pointer (some ⟨vb, 0, none⟩), .pointer (some ⟨g.fb, 0, none⟩), .int .i64 at_] w fun e w' => e = .returned (.bool (fullB zs most f.cs.length at_)) ∧ ∃ m, w' = w.drewN m := by
  have c1 := h.c1
  have c0 := h.c0
  obtain ⟨a, c, rfl, h1, h2⟩ := h.form
  have hn := h.nf
  have HC := hidb fun m => count15_any (w.drewN m) g f (hf.keep fun _ _ => rfl)
  have HU := hidb fun m => used15_any (w := w.drewN m) (h.keep fun _ _ => rfl)
  have HC0 := hidb (count15_any w g f hf)
  have hl := hf.len
  have hus : usedN zs ≤ 65536 := h.us
  have hmo := h.mo
  clear h hf
  unfold fullB
  generalize zs.length = n at *
  generalize f.cs.length = cl at *
  generalize usedN zs = us at *
  clear HC0
  obtain ⟨t1, b1, r1⟩ : ∃ t : Bool, ((at_ : Int) == (cl : Int)) = t ∧ decide (at_ = cl) = t := ⟨_, by
      by_cases h : at_ = cl
      · simp [h]
      · simp [h]; omega, rfl⟩
  obtain ⟨t2, b2, r2⟩ : ∃ t : Bool, decide (most ≤ (us : Int)) = t ∧ decide (most ≤ (us : Int)) = t := ⟨_, rfl, rfl⟩
  obtain ⟨t3, b3, r3⟩ : ∃ t : Bool, ((cl : Int) == 0) = t ∧ decide (cl = 0) = t := ⟨_, by
      by_cases h : cl = 0
      · simp [h]
      · simp [h], rfl⟩
  obtain ⟨t4, b4, r4⟩ : ∃ t : Bool, decide ((256 : Int) ≤ (n : Int)) = t ∧ decide (256 ≤ n) = t := ⟨_, by
      by_cases h : 256 ≤ n
      · simp [h]; omega
      · simp [h]; omega, rfl⟩
  rw [r1, r2, r3, r4]
  clear r1 r2 r3 r4 hn
  cases t1 <;> cases t2 <;> cases t3 <;> cases t4 <;>
  · go_enter Tryz.func78, Tryz.ntmps78
    go_wp2_with fail
    go_quiet ((go_at_call 47; exact Calls.quiet_of_same (HC.out _)))
    have d0 : (w.drewN nq).cell? ⟨vb, 0, none⟩ = some (.int .i64 most) := c0
    have d1 : (w.drewN nq).cell? ⟨vb, 1, none⟩ = some (.slice a n c) := c1
    have HU2 : Hid (∀ m, Calls Tryz.prog 103 #[.pointer (some ⟨vb, 0, none⟩)] ((w.drewN nq).drewN m) fun e w' => e = .returned (.int .i64 us) ∧ w' = (w.drewN nq).drewN m) := hidb fun m => by rw [World.drewN_drewN]; exact HU.out (nq + m)
    have HE : Hid (∀ m, ∃ k, (w.drewN nq).drewN m = w.drewN k) := hidb fun m => ⟨nq + m, by rw [World.drewN_drewN]⟩
    clear HU c0 c1
    generalize w.drewN nq = wq at *
    go_wp2_with fail
    go_quiet ((go_at_call 103; exact Calls.quiet_of_same (HU2.out _)))
    go_wp2_with fail
    go_ret
    exact ⟨rfl, HE.out _⟩
/-- What an operation leaves of the fuse. -/
def burnF (fuse : Int) : Int := if 0 < fuse then fuse - 1 else fuse
set_option maxRecDepth 100000 in
theorem burn15_both {own : Nat → Prop} {db vb : Nat} {fsv : Value} {zs : Zs} {most fuse : Int} {off : Bool} {w W : World} (h : DMid own db vb fsv zs most fuse off w W) : Calls Tryz.prog 59 #[.pointer (some ⟨vb, 0, none⟩)] W fun e w' => e = .returned (.int .i64 (if fuse = 0 then 9 else 0)) ∧ Hid (DMid own db vb fsv zs most (burnF fuse) (if fuse = 0 then true else off) w w' ∧ Kt (fun i => i = vb) W w') := by
  have c2 := h.at_.c2
  have c3 := h.at_.c3
  have f2 := h.at_.fr 2
  have f3 := h.at_.fr 3
  have hfu := h.at_.fu
  have bx := h.at_.vbox
  by_cases h0 : fuse = 0
  · have HE : Hid (DMid own db vb fsv zs most (burnF fuse) true w (W.setCell ⟨vb, 3, none⟩ (.bool true)) ∧ Kt (fun i => i = vb) W (W.setCell ⟨vb, 3, none⟩ (.bool true))) := hidb (And.intro (h.box (by rw [heap_setCell_same _ _ _ _ _ _ bx, h0]; rfl) ((Kt.refl _ _).set fun _ => rfl) (by rw [h0]; decide)) ((Kt.refl _ _).set fun _ => rfl))
    rw [if_pos h0, if_pos h0]
    clear h bx
    subst h0
    go_enter Tryz.func59, Tryz.ntmps59
    go_wp2_with fail
    go_ret
    exact ⟨rfl, HE⟩
  · rw [if_neg h0, if_neg h0]
    by_cases h1 : 0 < fuse
    · have HE : Hid (DMid own db vb fsv zs most (burnF fuse) off w (W.setCell ⟨vb, 2, none⟩ (.int .i64 (fuse - 1))) ∧ Kt (fun i => i = vb) W (W.setCell ⟨vb, 2, none⟩ (.int .i64 (fuse - 1)))) := hidb (And.intro (h.box (by rw [heap_setCell_same _ _ _ _ _ _ bx, burnF, if_pos h1]; rfl) ((Kt.refl _ _).set fun _ => rfl) (by rw [burnF, if_pos h1]; omega)) ((Kt.refl _ _).set fun _ => rfl))
      have hz : (fuse == 0) = false := by simpa using h0
      have hw : wrap64 (fuse - 1) = fuse - 1 := by unfold wrap64; omega
      clear h bx
      go_enter Tryz.func59, Tryz.ntmps59
      go_wp2_with fail
      go_ret
      first | exact ⟨rfl, HE⟩ | (rw [hw]; exact ⟨rfl, HE⟩)
    · have HE : Hid (DMid own db vb fsv zs most (burnF fuse) off w W ∧ Kt (fun i => i = vb) W W) := hidb ⟨by rw [burnF, if_neg h1]; exact h, Kt.refl _ _⟩
      have hz : (fuse == 0) = false := by simpa using h0
      clear h bx
      go_enter Tryz.func59, Tryz.ntmps59
      go_wp2_with fail
      go_ret
      exact ⟨rfl, HE⟩
theorem burn15_any {own : Nat → Prop} {db vb : Nat} {fsv : Value} {zs : Zs} {most fuse : Int} {off : Bool} {w W : World} (h : DMid own db vb fsv zs most fuse off w W) : Calls Tryz.prog 59 #[.pointer (some ⟨vb, 0, none⟩)] W fun e w' => e = .returned (.int .i64 (if fuse = 0 then 9 else 0)) ∧ Hid (DMid own db vb fsv zs most (burnF fuse) (if fuse = 0 then true else off) w w') := (burn15_both h).mono fun _ _ ⟨e, H⟩ => ⟨e, hidb H.out.1⟩
end Go.Proofs.YthmjejmignangaaGreatDoor
