/- Layer 15: a file is put among the others. -/
import Derived.Test.YthmjejmignangaaGreatDoorEL
namespace Go.Proofs.YthmjejmignangaaGreatDoor
open Go.RowKit
set_option maxRecDepth 100000 in
theorem elemPtr : ElemN Tryz.prog 107 110 1 8 := ⟨Tryz.underlying107, by refine ⟨_, _, rfl, rfl, rfl, rfl, rfl⟩, by omega⟩
/-- What Insert leaves. -/
def InsEnd (fsv : Value) (n i : Nat) (xs : List Value) (x : Value) (w : World) (e : Ending) (w' : World) : Prop := ∃ a' c', e = .returned (.slice a' (n + 1) c') ∧ Hid (w'.ownsRow 0 110 1 (.slice a' (n + 1) c') (n + 1) (xs.take i ++ x :: xs.drop i) ∧ Step w fsv w' (.slice a' (n + 1) c'))
/-- Insert ahead of others. -/
def InsOk : Prop := ∀ (fsv : Value) (n i fb vb1 : Nat) (xs : List Value) (w : World), w.ownsRow 0 110 1 fsv n xs → (∀ u ∈ xs, u.oneCell' = true) → i < n → n ≤ 256 → w.heap[vb1]? = some (.cells #[.pointer (some ⟨fb, 0, none⟩)] 110 (0, 0)) → fsv.ownBlock ≠ some vb1 → Calls Tryz.prog 104 #[fsv, .int .i64 i, .slice (some ⟨vb1, 0, none⟩) 1 1] w (InsEnd fsv n i xs (.pointer (some ⟨fb, 0, none⟩)) w)
set_option maxRecDepth 100000 in
set_option maxHeartbeats 1000000 in
theorem insert_end (fsv : Value) (n fb vb1 : Nat) (xs : List Value) (w : World) (h : w.ownsRow 0 110 1 fsv n xs) (hn : n ≤ 256) (hv : w.heap[vb1]? = some (.cells #[.pointer (some ⟨fb, 0, none⟩)] 110 (0, 0))) : Calls Tryz.prog 104 #[fsv, .int .i64 n, .slice (some ⟨vb1, 0, none⟩) 1 1] w (InsEnd fsv n n xs (.pointer (some ⟨fb, 0, none⟩)) w) := by
  obtain ⟨a, c, rfl, h1, h2, h3⟩ := row_form h
  have hx : xs.length = n := by have := h.1; omega
  have HX : Hid (xs.take n ++ Value.pointer (some ⟨fb, 0, none⟩) :: xs.drop n = xs ++ [.pointer (some ⟨fb, 0, none⟩)]) := hidb (by
    rw [List.take_of_length_le (by omega), List.drop_eq_nil_of_le (by omega)])
  have hL : Lies w (.slice (some ⟨vb1, 0, none⟩) 1 1) 1 [.pointer (some ⟨fb, 0, none⟩)] := .inr ⟨_, _, rfl, fun j u hu => by
    rw [Addr.add_lit, Lib.cell_of_heap hv]
    cases j with
    | zero => simpa using hu
    | succ j => simp at hu⟩
  have hrow := h
  clear h h3 hv hx
  by_cases hcn : n = c
  · subst hcn
    go_enter Tryz.func104, Tryz.ntmps104
    go_wp2_with (at_builtin; refine wpList_appN _ rfl _ _ 107 rfl elemPtr 0 _ n xs rfl hrow _ rfl 1 [.pointer (some ⟨fb, 0, none⟩)] hL rfl (by simp [Value.oneCell']) (by unfold maxLen; omega) (by omega) (Nat.zero_le _) ?_; intro v' w5 hr5 hs5; obtain ⟨a5, c5, e5, _, _, _⟩ := row_form hr5; subst e5)
    go_ret
    exact ⟨a5, c5, rfl, hidb ⟨by rw [HX.out]; exact hr5, hs5⟩⟩
  · have hcn2 : ¬ c = n := fun e => hcn e.symm
    go_enter Tryz.func104, Tryz.ntmps104
    go_wp2_with (at_builtin; refine wpList_appN _ rfl _ _ 107 rfl elemPtr 0 _ n xs rfl hrow _ rfl 1 [.pointer (some ⟨fb, 0, none⟩)] hL rfl (by simp [Value.oneCell']) (by unfold maxLen; omega) (by omega) (Nat.zero_le _) ?_; intro v' w5 hr5 hs5; obtain ⟨a5, c5, e5, _, _, _⟩ := row_form hr5; subst e5)
    go_ret
    exact ⟨a5, c5, rfl, hidb ⟨by rw [HX.out]; exact hr5, hs5⟩⟩
/-- A new file among the others. -/
theorem DMid.insert {own : Nat → Prop} {db vb : Nat} {fsv v' : Value} {A B : Zs} {most fuse : Int} {off : Bool} {w W W1 : World} {g : Fg} {f : Fl} (h : DMid own db vb fsv (A ++ B) most fuse off w W) (hf : FlAt W g f) (hg : ∀ k, g.has k → w.heap.size ≤ k) (hd : ∀ k, g.has k → ¬ DOwn db vb fsv (A ++ B) k)
    (hr : W1.ownsRow 0 110 1 v' ((A ++ B).length + 1) ((A ++ (g, f) :: B).map fun z => .pointer (some ⟨z.1.fb, 0, none⟩))) (hs : Step W fsv W1 v') (hn : (A ++ B).length + 1 ≤ 256) (hsr : (A ++ (g, f) :: B).Pairwise fun a b => klt a.2.name b.2.name) (hu : f.cs = []) : DMid own db vb v' (A ++ (g, f) :: B) most fuse off w (W1.setCell ⟨vb, 1, none⟩ v') := by
  have H := h.at_
  have hb : ∀ i, i < W.heap.size → fsv.ownBlock ≠ some i → W1.heap[i]? = W.heap[i]? := fun i hi hne => hs.1.block i hi (Ne.symm hne)
  have hvb := heap_ltb H.vbox
  have hdb := heap_ltb H.dbox
  have ob : ∀ k, v'.ownBlock = some k → fsv.ownBlock = some k ∨ W.heap.size ≤ k := fun k hk => by
    rcases hs.2 with e | ⟨q, e, hq⟩
    · exact .inl (e ▸ hk)
    · rw [e] at hk; injection hk with hk; subst hk; exact .inr hq
  have keepF : ∀ z ∈ A ++ B, FlAt (W1.setCell ⟨vb, 1, none⟩ v') z.1 z.2 := fun z hz => (H.fl z hz).keep fun i hi => by
    obtain ⟨_, a2, a3⟩ := H.own z hz i hi
    rw [Below.heap_setCell _ _ _ _ a2]
    exact hb i ((H.fl z hz).lts i hi) a3
  have hmem : ∀ z, z ∈ A ++ (g, f) :: B ↔ z = (g, f) ∨ z ∈ A ++ B := fun z => by simp only [List.mem_append, List.mem_cons]; constructor <;> intro x <;> rcases x with x | x | x <;> simp_all
  refine ⟨⟨?_, ?_, ?_, ?_, ?_, ?_, H.o1, ?_, ?_, hsr, ?_, ?_, H.mo, H.fu⟩, ?_, ?_⟩
  · rw [Below.heap_setCell _ _ _ _ H.o1]
    exact (hb db hdb H.o2).trans H.dbox
  · exact (heap_setCell_same _ _ _ _ _ _ ((hb vb hvb H.o3).trans H.vbox)).trans rfl
  · rw [show (A ++ (g, f) :: B).length = (A ++ B).length + 1 by simp; omega]
    refine row_keep hr fun i hi => Below.heap_setCell _ _ _ _ fun e => ?_
    have e : i = vb := e
    subst e
    rcases ob i hi with x | x
    · exact H.o3 x
    · omega
  · intro z hz
    rcases (hmem z).1 hz with rfl | x
    · refine hf.keep fun i hi => ?_
      have := hd i hi
      rw [Below.heap_setCell _ _ _ _ (fun e => this (.inr (.inl e)))]
      exact hb i (hf.lts i hi) fun e => this (.inr (.inr (.inl e)))
    · exact keepF z x
  · have hap := H.apart
    rw [List.pairwise_append] at hap
    rw [List.pairwise_append, List.pairwise_cons]
    refine ⟨hap.1, ⟨fun z hz i hi hz2 => hd i hi (.inr (.inr (.inr ⟨z, by simp [hz], hz2⟩))), hap.2.1⟩, fun a ha b hb2 i hi hi2 => ?_⟩
    rcases List.mem_cons.1 hb2 with rfl | x
    · exact hd i hi2 (.inr (.inr (.inr ⟨a, by simp [ha], hi⟩)))
    · exact hap.2.2 a ha b x i hi hi2
  · intro z hz i hi
    rcases (hmem z).1 hz with rfl | x
    · have := hd i hi
      refine ⟨fun e => this (.inl e), fun e => this (.inr (.inl e)), fun e => ?_⟩
      rcases ob i e with y | y
      · exact this (.inr (.inr (.inl y)))
      · have := hf.lts i hi; omega
    · obtain ⟨a1, a2, a3⟩ := H.own z x i hi
      refine ⟨a1, a2, fun e => ?_⟩
      rcases ob i e with y | y
      · exact a3 y
      · have := (H.fl z x).lts i hi; omega
  · intro e
    rcases ob db e with x | x
    · exact H.o2 x
    · omega
  · intro e
    rcases ob vb e with x | x
    · exact H.o3 x
    · omega
  · simp only [List.length_append, List.length_cons] at hn ⊢; omega
  · have := H.us
    simp only [List.map_append, List.map_cons, List.sum_append, List.sum_cons, hu, List.length_nil] at this ⊢
    omega
  · intro i hi
    rcases hi with x | x | x | ⟨z, hz, x⟩
    · exact h.has i (.inl x)
    · exact h.has i (.inr (.inl x))
    · rcases ob i x with y | y
      · exact h.has i (.inr (.inr (.inl y)))
      · exact .inr (Nat.le_trans h.kt.size y)
    · rcases (hmem z).1 hz with rfl | y
      · exact .inr (hg i x)
      · exact h.has i (.inr (.inr (.inr ⟨z, y, x⟩)))
  · have k1 : Kt own w W1 := h.kts (Kt.step hs (S := fun i => fsv.ownBlock = some i) fun _ e => e) fun i e => .inr (.inr (.inl e))
    exact k1.set fun hi => (h.has vb (.inr (.inl rfl))).resolve_right (by omega)
/-- keep of a file that is there. -/
theorem keep_old {own : Nat → Prop} {db vb : Nat} {fsv : Value} {A B : Zs} {g : Fg} {f : Fl} {most fuse : Int} {off : Bool} {w W : World} (h : DMid own db vb fsv (A ++ (g, f) :: B) most fuse off w W) : Calls Tryz.prog 79 #[.pointer (some ⟨vb, 0, none⟩), .pointer (some ⟨g.fb, 0, none⟩)] W fun e w' => e = .returned (.tuple #[]) ∧ w' = W := by
  have c0 := (h.at_.fl (g, f) (by simp)).c0
  have HF := hidb (find_yes h.at_ f.name ⟨(g, f), by simp, rfl⟩)
  clear h
  go_enter Tryz.func79, Tryz.ntmps79
  go_wp2_with (first
    | (go_at_call 57; refine HF.out.mono ?_; clear HF; rintro e w1 ⟨p, rfl, rfl, H⟩)
    | fail)
  go_end0
  exact ⟨rfl, rfl⟩
theorem cmp_tot : ∀ {a b : Bt}, ¬ klt a b → a ≠ b → klt b a
  | [], [], _, h => absurd rfl h
  | [], _ :: _, h, _ => absurd (by simp [klt, Lib.compareBytes]) h
  | _ :: _, [], _, _ => by simp [klt, Lib.compareBytes]
  | a :: xs, b :: ys, h1, h2 => by
    unfold klt Lib.compareBytes at *
    by_cases e1 : a < b
    · rw [if_pos e1] at h1; exact absurd (by decide) h1
    · rw [if_neg e1] at h1
      by_cases e2 : b < a
      · rw [if_pos e2]; decide
      · have : a = b := UInt8.le_antisymm (UInt8.not_lt.1 e2) (UInt8.not_lt.1 e1)
        subst this
        rw [if_neg e1] at h1 ⊢
        rw [if_neg e1]
        exact cmp_tot (a := xs) (b := ys) h1 (fun e => h2 (by rw [e]))
theorem Fnd.cut {zs : Zs} {name : Bt} {p : Nat} (hs : zs.Pairwise fun a b => klt a.2.name b.2.name) (h : Fnd zs name p false) : ∃ A B, zs = A ++ B ∧ A.length = p ∧ (∀ z ∈ A, klt z.2.name name) ∧ (∀ z ∈ B, klt name z.2.name) := by
  refine ⟨zs.take p, zs.drop p, (List.take_append_drop _ _).symm, by rw [List.length_take]; have := h.le; omega, fun z hz => ?_, fun z hz => ?_⟩
  · obtain ⟨t, ht, rfl⟩ := List.getElem_of_mem hz
    rw [List.length_take] at ht
    rw [List.getElem_take]
    exact h.lo t (by omega) (by omega)
  · have hne := h.none hs z (List.mem_of_mem_drop hz)
    obtain ⟨t, ht, rfl⟩ := List.getElem_of_mem hz
    rw [List.length_drop] at ht
    have := h.hi (p + t) (by omega) (by omega)
    rw [List.getElem_drop] at hne ⊢
    exact cmp_tot this hne
set_option maxRecDepth 100000 in
set_option maxHeartbeats 1000000 in
theorem keep_new {own : Nat → Prop} {db vb : Nat} {fsv : Value} {zs : Zs} {g : Fg} {f : Fl} {most fuse : Int} {off : Bool} {w W : World} (h : DMid own db vb fsv zs most fuse off w W) (hf : FlAt W g f) (hg : ∀ k, g.has k → w.heap.size ≤ k) (hd : ∀ k, g.has k → ¬ DOwn db vb fsv zs k) (hu : f.cs = []) (hex : ¬ ∃ z ∈ zs, z.2.name = f.name) (hl : zs.length < 256) (hI : InsOk ∨ zs = []) : Calls Tryz.prog 79 #[.pointer (some ⟨vb, 0, none⟩), .pointer (some ⟨g.fb, 0, none⟩)] W fun e w' => e = .returned (.tuple #[]) ∧ Hid (∃ fsv' A B, zs = A ++ B ∧ (∀ z ∈ A, klt z.2.name f.name) ∧ (∀ z ∈ B, klt f.name z.2.name) ∧ DMid own db vb fsv' (A ++ (g, f) :: B) most fuse off w w') := by
  have c0 := hf.c0
  have HF := hidb (find_no h.at_ f.name hex)
  have c1 := h.at_.c1
  have f1 := h.at_.fr 1
  have hvb := heap_ltb h.at_.vbox
  have HIN : Hid (∀ p, Fnd zs f.name p false → Calls Tryz.prog 104 #[fsv, .int .i64 p, .slice (some ⟨W.heap.size, 0, none⟩) 1 1] (W.alloc (.cells #[.pointer (some ⟨g.fb, 0, none⟩)] 110)) fun e w' => ∃ a' n' c', e = .returned (.slice a' n' c') ∧ w'.cell? ⟨vb, 1, none⟩ = some fsv ∧ w'.frozen? ⟨vb, 1, none⟩ = false ∧ Hid (∃ fsv' A B, zs = A ++ B ∧ (∀ z ∈ A, klt z.2.name f.name) ∧ (∀ z ∈ B, klt f.name z.2.name) ∧ DMid own db vb fsv' (A ++ (g, f) :: B) most fuse off w (w'.setCell ⟨vb, 1, none⟩ (.slice a' n' c')))) := hidb fun p hp => by
    obtain ⟨A, B, e1, e2, e3, e4⟩ := hp.cut h.at_.srt
    clear HF
    subst e1
    have hb := (Below.refl _ W).alloc (Nat.le_refl _) (.cells #[.pointer (some ⟨g.fb, 0, none⟩)] 110)
    have hM := h.below hb
    have hrow := hM.at_.row
    have hbx := heap_alloc_new W (.cells #[.pointer (some ⟨g.fb, 0, none⟩)] 110)
    have hob : fsv.ownBlock ≠ some W.heap.size := fun e => by have := (h.at_.row.lt _ e).2; omega
    have K : Calls Tryz.prog 104 #[fsv, .int .i64 p, .slice (some ⟨W.heap.size, 0, none⟩) 1 1] (W.alloc (.cells #[.pointer (some ⟨g.fb, 0, none⟩)] 110)) (InsEnd fsv (A ++ B).length p ((A ++ B).map fun z => .pointer (some ⟨z.1.fb, 0, none⟩)) (.pointer (some ⟨g.fb, 0, none⟩)) (W.alloc (.cells #[.pointer (some ⟨g.fb, 0, none⟩)] 110))) := by
      by_cases hpn : p = (A ++ B).length
      · rw [hpn]
        exact insert_end fsv (A ++ B).length g.fb W.heap.size _ _ hrow (by omega) hbx
      · rcases hI with hI | hI
        · exact hI fsv (A ++ B).length p g.fb W.heap.size _ _ hrow (fun u hu => by obtain ⟨z, _, rfl⟩ := List.mem_map.1 hu; rfl) (by have := hp.le; omega) (by omega) hbx hob
        · have := hp.le
          rw [hI] at this hpn
          simp at this hpn
          exact absurd this hpn
    refine K.mono ?_
    rintro e w' ⟨a', c', rfl, HE⟩
    obtain ⟨hr, hs⟩ := HE.out
    have bx : w'.heap[vb]? = some (.cells #[.int .i64 most, fsv, .int .i64 fuse, .bool off] 109 (0, 0)) := (hs.1.block _ (heap_ltb hM.at_.vbox) (fun e => hM.at_.o3 e.symm)).trans hM.at_.vbox
    refine ⟨a', _, c', rfl, Lib.cell_of_heap bx 1, Lib.frozen_of_heap bx 1, hidb ⟨.slice a' ((A ++ B).length + 1) c', A, B, rfl, e3, e4, ?_⟩⟩
    refine hM.insert (hf.below hb) hg hd ?_ hs (by omega) ?_ hu
    · have ep : ((A ++ B).map fun z => Value.pointer (some ⟨z.1.fb, 0, none⟩)).take p ++ Value.pointer (some ⟨g.fb, 0, none⟩) :: ((A ++ B).map fun z => Value.pointer (some ⟨z.1.fb, 0, none⟩)).drop p = (A ++ (g, f) :: B).map fun z => Value.pointer (some ⟨z.1.fb, 0, none⟩) := by
        rw [List.map_append, List.take_left' (by simpa using e2), List.drop_left' (by simpa using e2)]
        simp
      rw [← ep]
      exact hr
    · have hsr := hM.at_.srt
      rw [List.pairwise_append] at hsr
      rw [List.pairwise_append, List.pairwise_cons]
      refine ⟨hsr.1, ⟨e4, hsr.2.1⟩, fun a ha b hb => ?_⟩
      rcases List.mem_cons.1 hb with rfl | x
      · exact e3 a ha
      · exact hsr.2.2 a ha b x
  clear hf hex h hI
  go_enter Tryz.func79, Tryz.ntmps79
  go_wp2_with (first
    | (go_at_call 57; refine HF.out.mono ?_; clear HF; rintro e w1 ⟨p, rfl, rfl, H⟩)
    | (go_at_call 104; refine (HIN.out p H.out).mono ?_; clear HIN; rintro e w2 ⟨a', n', c', rfl, d1, df, HE⟩)
    | fail)
  go_end0
  exact ⟨rfl, HE⟩
end Go.Proofs.YthmjejmignangaaGreatDoor
