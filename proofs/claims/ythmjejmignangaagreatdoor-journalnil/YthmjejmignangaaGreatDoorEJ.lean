/- Layer 15: the disk in memory; where a file stands. -/
import Derived.Test.YthmjejmignangaaGreatDoorEI
import Derived.Test.YthmjejmignangaaGreatDoorShelfc
namespace Go.Proofs.YthmjejmignangaaGreatDoor
open Go.RowKit
/-- Names that rise. -/
def klt (a b : Bt) : Prop := Lib.compareBytes a b < 0
theorem cmp_self (a : Bt) : Lib.compareBytes a a = 0 := by
  induction a with
  | nil => rfl
  | cons x a ih => simp [Lib.compareBytes, ih, UInt8.lt_irrefl]
theorem cmp_eq : ∀ {a b : Bt}, Lib.compareBytes a b = 0 → a = b
  | [], [], _ => rfl
  | [], _ :: _, h => by simp [Lib.compareBytes] at h
  | _ :: _, [], h => by simp [Lib.compareBytes] at h
  | a :: xs, b :: ys, h => by
    unfold Lib.compareBytes at h
    split at h
    · cases h
    · split at h
      · cases h
      · rename_i h1 h2
        have : a = b := UInt8.le_antisymm (UInt8.not_lt.1 h2) (UInt8.not_lt.1 h1)
        rw [this, cmp_eq h]
theorem klt_trans : ∀ {a b c : Bt}, klt a b → klt b c → klt a c
  | [], [], _, h, _ => by simp [klt, Lib.compareBytes] at h
  | [], _ :: _, [], _, h => by simp [klt, Lib.compareBytes] at h
  | [], _ :: _, _ :: _, _, _ => by simp [klt, Lib.compareBytes]
  | _ :: _, [], _, h, _ => by simp [klt, Lib.compareBytes] at h
  | _ :: _, _ :: _, [], _, h => by simp [klt, Lib.compareBytes] at h
  | a :: xs, b :: ys, c :: zs, h1, h2 => by
    unfold klt Lib.compareBytes at *
    by_cases e1 : a < b
    · by_cases e2 : b < c
      · rw [if_pos (UInt8.lt_trans e1 e2)]; decide
      · rw [if_neg e2] at h2
        by_cases e3 : c < b
        · rw [if_pos e3] at h2; cases h2
        · have : b = c := UInt8.le_antisymm (UInt8.not_lt.1 e3) (UInt8.not_lt.1 e2)
          subst this
          rw [if_pos e1]; decide
    · rw [if_neg e1] at h1
      by_cases e4 : b < a
      · rw [if_pos e4] at h1; cases h1
      · have : a = b := UInt8.le_antisymm (UInt8.not_lt.1 e4) (UInt8.not_lt.1 e1)
        subst this
        rw [if_neg e4] at h1
        by_cases e2 : a < c
        · rw [if_pos e2]; decide
        · rw [if_neg e2] at h2 ⊢
          by_cases e3 : c < a
          · rw [if_pos e3] at h2; cases h2
          · rw [if_neg e3] at h2 ⊢
            exact klt_trans (a := xs) (b := ys) (c := zs) h1 h2
theorem klt_irr (a : Bt) : ¬ klt a a := by unfold klt; rw [cmp_self]; decide
abbrev Zs := List (Fg × Fl)
/-- The disk lies there. -/
structure DAt (db vb : Nat) (fsv : Value) (zs : Zs) (most fuse : Int) (off : Bool) (w : World) : Prop where
  dbox : w.heap[db]? = some (.cells #[.pointer (some ⟨vb, 0, none⟩)] 43 (0, 0))
  vbox : w.heap[vb]? = some (.cells #[.int .i64 most, fsv, .int .i64 fuse, .bool off] 109 (0, 0))
  row : w.ownsRow 0 110 1 fsv zs.length (zs.map fun z => .pointer (some ⟨z.1.fb, 0, none⟩))
  fl : ∀ z ∈ zs, FlAt w z.1 z.2
  apart : zs.Pairwise fun a b => ∀ k, a.1.has k → ¬ b.1.has k
  own : ∀ z ∈ zs, ∀ k, z.1.has k → k ≠ db ∧ k ≠ vb ∧ fsv.ownBlock ≠ some k
  o1 : db ≠ vb
  o2 : fsv.ownBlock ≠ some db
  o3 : fsv.ownBlock ≠ some vb
  srt : zs.Pairwise fun a b => klt a.2.name b.2.name
  nf : zs.length ≤ 256
  us : (zs.map fun z => z.2.cs.length).sum ≤ 65536
  mo : most ≤ 65536
  fu : -9223372036854775808 ≤ fuse ∧ fuse ≤ 9223372036854775807
/-- The blocks that are the disk's. -/
def DOwn (db vb : Nat) (fsv : Value) (zs : Zs) (k : Nat) : Prop := k = db ∨ k = vb ∨ fsv.ownBlock = some k ∨ ∃ z ∈ zs, z.1.has k
section
variable {db vb : Nat} {fsv : Value} {zs : Zs} {most fuse : Int} {off : Bool} {w : World}
theorem DAt.lts (h : DAt db vb fsv zs most fuse off w) : ∀ k, DOwn db vb fsv zs k → k < w.heap.size := by
  intro k hk
  rcases hk with rfl | rfl | e | ⟨z, hz, e⟩
  · exact heap_ltb h.dbox
  · exact heap_ltb h.vbox
  · exact (h.row.lt k e).2
  · exact (h.fl z hz).lts k e
theorem DAt.keep {w' : World} (h : DAt db vb fsv zs most fuse off w) (e : ∀ k, DOwn db vb fsv zs k → w'.heap[k]? = w.heap[k]?) : DAt db vb fsv zs most fuse off w' :=
  ⟨(e _ (.inl rfl)).trans h.dbox, (e _ (.inr (.inl rfl))).trans h.vbox, row_keep h.row fun k hk => e k (.inr (.inr (.inl hk))), fun z hz => (h.fl z hz).keep fun k hk => e k (.inr (.inr (.inr ⟨z, hz, hk⟩))), h.apart, h.own, h.o1, h.o2, h.o3, h.srt, h.nf, h.us, h.mo, h.fu⟩
theorem DAt.below {w' : World} (h : DAt db vb fsv zs most fuse off w) (k : Below w.heap.size w w') : DAt db vb fsv zs most fuse off w' := h.keep fun i hi => k.block i (h.lts i hi)
theorem DAt.cd (h : DAt db vb fsv zs most fuse off w) : w.cell? ⟨db, 0, none⟩ = some (.pointer (some ⟨vb, 0, none⟩)) := Lib.cell_of_heap h.dbox 0
theorem DAt.c0 (h : DAt db vb fsv zs most fuse off w) : w.cell? ⟨vb, 0, none⟩ = some (.int .i64 most) := Lib.cell_of_heap h.vbox 0
theorem DAt.c1 (h : DAt db vb fsv zs most fuse off w) : w.cell? ⟨vb, 1, none⟩ = some fsv := Lib.cell_of_heap h.vbox 1
theorem DAt.c2 (h : DAt db vb fsv zs most fuse off w) : w.cell? ⟨vb, 2, none⟩ = some (.int .i64 fuse) := Lib.cell_of_heap h.vbox 2
theorem DAt.c3 (h : DAt db vb fsv zs most fuse off w) : w.cell? ⟨vb, 3, none⟩ = some (.bool off) := Lib.cell_of_heap h.vbox 3
theorem DAt.fr (h : DAt db vb fsv zs most fuse off w) (j : Nat) : w.frozen? ⟨vb, j, none⟩ = false := Lib.frozen_of_heap h.vbox j
theorem DAt.form (h : DAt db vb fsv zs most fuse off w) : ∃ a c, fsv = .slice a zs.length c ∧ zs.length ≤ c ∧ c ≤ maxLen := by
  obtain ⟨a, c, e, h1, h2, _⟩ := row_form h.row
  exact ⟨a, c, e, h1, h2⟩
/-- The place of the i-th file. -/
theorem DAt.at_ (h : DAt db vb fsv zs most fuse off w) (i : Nat) (hi : i < zs.length) : ∃ q c, fsv = .slice (some ⟨q, 0, none⟩) zs.length c ∧ w.cell? ⟨q, i, none⟩ = some (.pointer (some ⟨zs[i].1.fb, 0, none⟩)) ∧ w.frozen? ⟨q, i, none⟩ = false ∧ FlAt w zs[i].1 zs[i].2 ∧ q < w.heap.size := by
  rcases h.row.2 with ⟨_, e⟩ | ⟨q, c, cur, e, _, hh, _⟩
  · omega
  · have r := h.row
    rw [e] at r
    refine ⟨q, c, e, ?_, r.frozenAt i, h.fl _ (List.getElem_mem hi), heap_ltb hh⟩
    rw [r.cellAt i (by omega), List.getElem?_map, List.getElem?_eq_getElem hi]
    rfl
end
theorem closure15 (fb : Nat) (nm name : Bt) (w : World) (h : w.cell? ⟨fb, 0, none⟩ = some (sv nm)) : Calls Tryz.prog 83 #[.pointer (some ⟨fb, 0, none⟩), sv name] w fun e w' => e = .returned (.int .i64 (Lib.compareBytes nm name)) ∧ w' = w := by
  have HC := hidb (Tryz.strings_Compare ⟨nm.toArray⟩ ⟨name.toArray⟩ w)
  go_enter Tryz.func83, Tryz.ntmps83
  go_wp2_with (go_at_call 84; refine HC.out.mono ?_; clear HC; rintro e w' ⟨rfl, rfl⟩)
  go_ret
  exact ⟨rfl, rfl⟩
/-- Where a name stands, or would, and whether it is there. -/
structure Fnd (zs : Zs) (name : Bt) (p : Nat) (b : Bool) : Prop where
  le : p ≤ zs.length
  lo : ∀ t (h : t < zs.length), t < p → klt zs[t].2.name name
  hi : ∀ t (h : t < zs.length), p ≤ t → ¬ klt zs[t].2.name name
  yes : b = true → ∃ h : p < zs.length, zs[p].2.name = name
  no : b = false → ∀ h : p < zs.length, zs[p].2.name ≠ name
theorem srt_lt {zs : Zs} (h : zs.Pairwise fun a b => klt a.2.name b.2.name) {i j : Nat} (hi : i < zs.length) (hj : j < zs.length) (e : i < j) : klt zs[i].2.name zs[j].2.name := List.pairwise_iff_getElem.1 h i j hi hj e
set_option maxRecDepth 100000 in
set_option maxHeartbeats 1000000 in
theorem bsearch15 (db vb : Nat) (fsv : Value) (zs : Zs) (most fuse : Int) (off : Bool) (w : World) (name : Bt) (h : DAt db vb fsv zs most fuse off w) : Calls Tryz.prog 82 #[fsv, sv name, .func (.func 83) #[] #[]] w fun e w' => ∃ (p : Nat) (b : Bool), e = .returned (.tuple #[.int .i64 p, .bool b]) ∧ w' = w ∧ Hid (Fnd zs name p b) := by
  obtain ⟨a, c, rfl, h1, h2⟩ := h.form
  have hn := h.nf
  have eF : ∀ args w, (callFunc 83 args).run Tryz.prog w = .ok (.enter 83 args) w := enters_of Tryz.func83 (by kernel_rfl) rfl
  have HA : Hid (∀ i (hi : i < zs.length), ∃ q, a = some ⟨q, 0, none⟩ ∧ w.cell? ⟨q, i, none⟩ = some (.pointer (some ⟨zs[i].1.fb, 0, none⟩)) ∧ Calls Tryz.prog 83 #[.pointer (some ⟨zs[i].1.fb, 0, none⟩), sv name] w fun e w' => e = .returned (.int .i64 (Lib.compareBytes zs[i].2.name name)) ∧ w' = w) := hidb fun i hi => by
    obtain ⟨q, c', e, h3, _, h4, _⟩ := h.at_ i hi
    injection e with e _ _
    exact ⟨q, e, h3, closure15 _ _ _ _ h4.c0⟩
  have HS := hidb h.srt
  clear h
  obtain ⟨n, hn'⟩ : ∃ n, n = zs.length := ⟨_, rfl⟩
  rw [← hn'] at h1 hn ⊢
  have HN := hidb hn'
  clear hn'
  go_enter Tryz.func82, Tryz.ntmps82
  go_wp2_with fail
  go_loopg [9, 10] n (fun kx s9 s10 wr => ∃ lo hi : Nat, s9 = .int .i64 lo ∧ s10 = .int .i64 hi ∧ lo ≤ hi ∧ hi ≤ n ∧ hi - lo ≤ kx ∧ wr = w ∧ Hid ((∀ t (h : t < zs.length), t < lo → klt zs[t].2.name name) ∧ (∀ t (h : t < zs.length), hi ≤ t → ¬ klt zs[t].2.name name)))
  case atStart => exact ⟨0, n, rfl, rfl, Nat.zero_le _, Nat.le_refl _, by omega, rfl, hidb ⟨fun t _ ht => absurd ht (Nat.not_lt_zero _), fun t h1 h2 => by rw [HN.out] at h2; omega⟩⟩
  case round =>
    obtain ⟨lo, hi, rfl, rfl, hlh, hin, hg, rfl, I⟩ := hrel
    by_cases hlt : lo < hi
    · have hm : (lo + hi) / 2 < zs.length := by rw [← HN.out]; omega
      obtain ⟨q, rfl, hc, HC⟩ := HA.out _ hm
      have HC := hidb HC
      obtain ⟨nm, hnm⟩ : ∃ nm, nm = zs[(lo + hi) / 2].2.name := ⟨_, rfl⟩
      rw [← hnm] at HC
      have HM := hidb hnm
      clear hnm
      generalize zs[(lo + hi) / 2].1.fb = fb at *
      by_cases hyx : Lib.compareBytes nm name < 0
      · go_wp2_with (go_at_fn 83; refine HC.out.mono ?_; rintro e w' ⟨rfl, rfl⟩)
        go_roundg (hi - ((lo + hi) / 2 + 1))
        case measure => omega
        case rel =>
          refine ⟨(lo + hi) / 2 + 1, hi, by rw [show ((lo : Int) + (hi : Int)) / 2 + 1 = (((lo + hi) / 2 + 1 : Nat) : Int) by omega], rfl, by omega, hin, Nat.le_refl _, rfl, hidb ⟨fun t ht htl => ?_, I.out.2⟩⟩
          have hk : klt zs[(lo + hi) / 2].2.name name := by rw [← HM.out]; exact hyx
          by_cases e : t = (lo + hi) / 2
          · subst e; exact hk
          · exact klt_trans (srt_lt HS.out ht hm (by omega)) hk
      · go_wp2_with (go_at_fn 83; refine HC.out.mono ?_; rintro e w' ⟨rfl, rfl⟩)
        go_roundg ((lo + hi) / 2 - lo)
        case measure => omega
        case rel =>
          refine ⟨lo, (lo + hi) / 2, rfl, by rw [show ((lo : Int) + (hi : Int)) / 2 = (((lo + hi) / 2 : Nat) : Int) by omega], by omega, by omega, Nat.le_refl _, rfl, hidb ⟨I.out.1, fun t ht htl hk => ?_⟩⟩
          have hk2 : ¬ klt zs[(lo + hi) / 2].2.name name := by rw [← HM.out]; unfold klt; omega
          by_cases e : t = (lo + hi) / 2
          · subst e; exact hk2 hk
          · exact hk2 (klt_trans (srt_lt HS.out hm ht (by omega)) hk)
    · obtain rfl : lo = hi := by omega
      by_cases hln : lo < n
      · have hm : lo < zs.length := by rw [← HN.out]; omega
        obtain ⟨q, rfl, hc, HC⟩ := HA.out _ hm
        have HC := hidb HC
        obtain ⟨nm, hnm⟩ : ∃ nm, nm = zs[lo].2.name := ⟨_, rfl⟩
        rw [← hnm] at HC
        have HM := hidb hnm
        clear hnm
        generalize zs[lo].1.fb = fb at *
        by_cases hyx : Lib.compareBytes nm name = 0
        · rw [hyx] at HC
          have HE : Hid (Fnd zs name lo true) := hidb ⟨by omega, I.out.1, I.out.2, fun _ => ⟨hm, by rw [← HM.out]; exact cmp_eq hyx⟩, fun e => by cases e⟩
          go_wp2_with (go_at_fn 83; refine HC.out.mono ?_; rintro e w' ⟨rfl, rfl⟩)
          go_ret2
          exact ⟨lo, true, rfl, rfl, HE⟩
        · have HE : Hid (Fnd zs name lo false) := hidb ⟨by omega, I.out.1, I.out.2, fun e => (by cases e), fun _ _ e => hyx (by rw [HM.out, e]; exact cmp_self _)⟩
          have hz : (Lib.compareBytes nm name == 0) = false := by simpa using hyx
          go_wp2_with (go_at_fn 83; refine HC.out.mono ?_; rintro e w' ⟨rfl, rfl⟩)
          go_ret2
          exact ⟨lo, false, by simp, rfl, HE⟩
      · have HE : Hid (Fnd zs name lo false) := hidb ⟨by rw [← HN.out]; omega, I.out.1, I.out.2, fun e => (by cases e), fun _ h => by rw [← HN.out] at h; omega⟩
        go_wp2_with fail
        go_ret2
        exact ⟨lo, false, by simp, rfl, HE⟩
theorem find15_any (db vb : Nat) (fsv : Value) (zs : Zs) (most fuse : Int) (off : Bool) (w : World) (name : Bt) (h : DAt db vb fsv zs most fuse off w) : Calls Tryz.prog 57 #[.pointer (some ⟨vb, 0, none⟩), sv name] w fun e w' => ∃ (p : Nat) (b : Bool), e = .returned (.tuple #[.int .i64 p, .bool b]) ∧ w' = w ∧ Hid (Fnd zs name p b) := by
  have c1 := h.c1
  have HB := hidb (bsearch15 db vb fsv zs most fuse off w name h)
  clear h
  go_enter Tryz.func57, Tryz.ntmps57
  go_wp2_with (go_at_call 82; refine HB.out.mono ?_; clear HB; rintro e w' ⟨p, b, rfl, rfl, H⟩)
  go_ret2
  exact ⟨p, b, rfl, rfl, H⟩
end Go.Proofs.YthmjejmignangaaGreatDoor
