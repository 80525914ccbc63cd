/- Layer 15: get; New, Cut, Down, Used, Sync, Read, Files. -/
import Derived.Test.YtkfohihemmjkbaaGreatDoorEK
namespace Go.Proofs.YtkfohihemmjkbaaGreatDoor
open Go.RowKit
theorem strings_clone (s : Bt) (w : World) (hs : s.length ≤ 281474976710656) : Calls Tryz.prog 31 #[sv s] w fun e w' => e = .returned (sv s) ∧ Below w.heap.size w w' := by
  have hc := hidb (Tryz.stringslite_Clone ⟨s.toArray⟩ w (by show s.toArray.size ≤ _; simpa using hs))
  go_enter Tryz.func31, Tryz.ntmps31
  go_wp2_with (go_at_call 61; refine hc.out.mono ?_; clear hc; rintro e w' ⟨rfl, hb⟩)
  go_ret
  exact ⟨rfl, hb⟩
/-- What get answers: a file of the disk's, or a new one. -/
inductive Got (db vb : Nat) (fsv : Value) (zs : Zs) (most fuse : Int) (off : Bool) (name : Bt) (w w' : World) (g : Fg) (f : Fl) : Prop
  | old (A B : Zs) (e : zs = A ++ (g, f) :: B) (hn : f.name = name) (hw : w' = w)
  | new (hne : ∀ z ∈ zs, z.2.name ≠ name) (hg : g = ⟨g.fb, .slice none 0 0, none⟩) (hf : f = ⟨name, []⟩) (hfb : w.heap.size ≤ g.fb) (hat : FlAt w' g f) (hb : Below w.heap.size w w')
theorem Fnd.none {zs : Zs} {name : Bt} {p : Nat} (hs : zs.Pairwise fun a b => klt a.2.name b.2.name) (h : Fnd zs name p false) (z : Fg × Fl) (hz : z ∈ zs) : z.2.name ≠ name := by
  obtain ⟨t, ht, rfl⟩ := List.getElem_of_mem hz
  intro e
  by_cases x : t < p
  · have := h.lo t ht x
    rw [e] at this
    exact klt_irr _ this
  · by_cases y : t = p
    · subst y; exact h.no rfl ht e
    · have hp : p < zs.length := by omega
      have := srt_lt hs hp ht (by omega)
      rw [e] at this
      exact h.hi p hp (Nat.le_refl _) this
theorem find_yes {db vb : Nat} {fsv : Value} {zs : Zs} {most fuse : Int} {off : Bool} {w : World} (h : DAt db vb fsv zs most fuse off w) (name : Bt) (hex : ∃ z ∈ zs, z.2.name = name) : Calls Tryz.prog 57 #[.pointer (some ⟨vb, 0, none⟩), sv name] w fun e w' => ∃ p : Nat, e = .returned (.tuple #[.int .i64 p, .bool true]) ∧ w' = w ∧ Hid (Fnd zs name p true) := by
  refine (find15_any db vb fsv zs most fuse off w name h).mono ?_
  rintro e w' ⟨p, b, rfl, rfl, H⟩
  cases b with
  | true => exact ⟨p, rfl, rfl, H⟩
  | false =>
    obtain ⟨z, hz, e⟩ := hex
    exact absurd e (H.out.none h.srt z hz)
theorem find_no {db vb : Nat} {fsv : Value} {zs : Zs} {most fuse : Int} {off : Bool} {w : World} (h : DAt db vb fsv zs most fuse off w) (name : Bt) (hex : ¬ ∃ z ∈ zs, z.2.name = name) : Calls Tryz.prog 57 #[.pointer (some ⟨vb, 0, none⟩), sv name] w fun e w' => ∃ p : Nat, e = .returned (.tuple #[.int .i64 p, .bool false]) ∧ w' = w ∧ Hid (Fnd zs name p false) := by
  refine (find15_any db vb fsv zs most fuse off w name h).mono ?_
  rintro e w' ⟨p, b, rfl, rfl, H⟩
  cases b with
  | false => exact ⟨p, rfl, rfl, H⟩
  | true =>
    obtain ⟨hp, e⟩ := H.out.yes rfl
    exact absurd ⟨_, List.getElem_mem hp, e⟩ hex
/-- A file of the disk, by its place. -/
theorem Fnd.split {zs : Zs} {name : Bt} {p : Nat} (h : Fnd zs name p true) : ∃ A B z, zs = A ++ z :: B ∧ A.length = p ∧ z.2.name = name := by
  obtain ⟨hp, e⟩ := h.yes rfl
  refine ⟨zs.take p, zs.drop (p + 1), zs[p], ?_, by rw [List.length_take]; omega, e⟩
  rw [List.getElem_cons_drop, List.take_append_drop]
set_option maxRecDepth 100000 in
theorem get15_any {db vb : Nat} {fsv : Value} {zs : Zs} {most fuse : Int} {off : Bool} {w : World} (h : DAt db vb fsv zs most fuse off w) (name : Bt) (hl : name.length ≤ 281474976710656) : Calls Tryz.prog 77 #[.pointer (some ⟨vb, 0, none⟩), sv name] w fun e w' => ∃ q, e = .returned (.pointer (some ⟨q, 0, none⟩)) ∧ Hid (∃ g f, g.fb = q ∧ Got db vb fsv zs most fuse off name w w' g f) := by
  have c1 := h.c1
  have HC := hidb (strings_clone name w hl)
  have hn := h.nf
  by_cases hex : ∃ z ∈ zs, z.2.name = name
  · have HF := hidb (find_yes h name hex)
    obtain ⟨a, c, rfl, h1, h2⟩ := h.form
    have HA : Hid (∀ p, Fnd zs name p true → p < zs.length ∧ ∃ q fb, a = some ⟨q, 0, none⟩ ∧ w.cell? ⟨q, p, none⟩ = some (.pointer (some ⟨fb, 0, none⟩)) ∧ Hid (∃ g f, g.fb = fb ∧ Got db vb (.slice a zs.length c) zs most fuse off name w w g f)) := hidb fun p hp => by
      obtain ⟨hi, e⟩ := hp.yes rfl
      obtain ⟨q, c', e', h3, _, h4, _⟩ := h.at_ p hi
      injection e' with e' _ _
      refine ⟨hi, q, _, e', h3, hidb ⟨zs[p].1, zs[p].2, rfl, .old (zs.take p) (zs.drop (p + 1)) ?_ e rfl⟩⟩
      rw [show (zs[p].1, zs[p].2) = zs[p] from rfl, List.getElem_cons_drop, List.take_append_drop]
    clear h
    generalize zs.length = n at *
    go_enter Tryz.func77, Tryz.ntmps77
    go_wp2_with (first
      | (go_at_call 57; refine HF.out.mono ?_; clear HF; rintro e w1 ⟨p, rfl, rfl, H⟩; obtain ⟨hp, q, fb, rfl, hc, HG⟩ := HA.out p H.out)
      | fail)
    go_ret
    exact ⟨_, rfl, HG⟩
  · have HF := hidb (find_no h name hex)
    obtain ⟨a, c, rfl, h1, h2⟩ := h.form
    have HB : Hid (∀ w1, Below w.heap.size w w1 → ∃ g f, g.fb = w1.heap.size ∧ Got db vb (.slice a zs.length c) zs most fuse off name w (w1.alloc (.cells #[sv name, .slice none 0 0, .map none] 116)) g f) := hidb fun w1 hb => by
      refine ⟨⟨w1.heap.size, .slice none 0 0, none⟩, ⟨name, []⟩, rfl, .new (fun z hz e => hex ⟨z, hz, e⟩) rfl rfl hb.size ?_ (hb.alloc hb.size _)⟩
      exact ⟨heap_alloc_new w1 _, World.ownsRow_nil _ _ _ _, .inl ⟨rfl, fun _ => rfl⟩, by simp, by simp [Value.ownBlock], by simp, fun k hk => by simp [Value.ownBlock] at hk⟩
    clear h hex
    generalize zs.length = n at *
    go_enter Tryz.func77, Tryz.ntmps77
    go_wp2_with (first
      | (go_at_call 57; refine HF.out.mono ?_; clear HF; rintro e w1 ⟨p, rfl, rfl, H⟩)
      | (go_at_call 31; refine HC.out.mono ?_; clear HC; rintro e w2 ⟨rfl, hb⟩)
      | fail)
    go_ret
    exact ⟨_, rfl, hidb (HB.out w2 hb)⟩
/-- The disk at db is d; what K holds is none of it. -/
def DkAt (K : Nat → Prop) (db : Nat) (d : Dk) (w : World) : Prop := ∃ vb fsv zs, DAt db vb fsv zs d.most d.fuse d.off w ∧ zs.map Prod.snd = d.fs ∧ (∀ k, DOwn db vb fsv zs k → ¬ K k) ∧ (∀ k, K k → k < w.heap.size)
/-- What a call leaves that changes the disk. -/
def DkEnd (K : Nat → Prop) (db : Nat) (d : Dk) (w w' : World) : Prop := DkAt K db d w' ∧ Kt (fun k => ¬ K k) w w'
theorem DMid.ends {K : Nat → Prop} {db vb vb' : Nat} {fsv fsv' : Value} {zs zs' : Zs} {most fuse : Int} {off : Bool} {w W : World} (h : DMid (DOwn db vb fsv zs) db vb' fsv' zs' most fuse off w W) (hK : ∀ k, DOwn db vb fsv zs k → ¬ K k) (hl : ∀ k, K k → k < w.heap.size) : DkEnd K db ⟨most, zs'.map Prod.snd, fuse, off⟩ w W :=
  ⟨⟨vb', fsv', zs', h.at_, rfl, fun k hk hk2 => by
    rcases h.has k hk with x | x
    · exact hK k x hk2
    · have := hl k hk2; omega, fun k hk => Nat.lt_of_lt_of_le (hl k hk) h.kt.size⟩, h.kt.mono fun k _ x => hK k x⟩
theorem DkAt.below {K : Nat → Prop} {db : Nat} {d : Dk} {w w' : World} (h : DkAt K db d w) (b : Below w.heap.size w w') : DkAt K db d w' := by
  obtain ⟨vb, fsv, zs, h1, h2, h3, h4⟩ := h
  exact ⟨vb, fsv, zs, h1.below b, h2, h3, fun k hk => Nat.lt_of_lt_of_le (h4 k hk) b.size⟩
/-- What is new may be held, too. -/
theorem DkAt.more {K : Nat → Prop} {db : Nat} {d : Dk} {w w' : World} (h : DkAt K db d w) (b : Below w.heap.size w w') (R : Nat → Prop) (hR : ∀ k, R k → w.heap.size ≤ k ∧ k < w'.heap.size) : DkAt (fun k => K k ∨ R k) db d w' := by
  obtain ⟨vb, fsv, zs, h1, h2, h3, h4⟩ := h
  refine ⟨vb, fsv, zs, h1.below b, h2, fun k hk hk2 => ?_, fun k hk => ?_⟩
  · rcases hk2 with x | x
    · exact h3 k hk x
    · have := (hR k x).1; have := h1.lts k hk; omega
  · rcases hk with x | x
    · exact Nat.lt_of_lt_of_le (h4 k x) b.size
    · exact (hR k x).2
theorem DkAt.less {K R : Nat → Prop} {db : Nat} {d : Dk} {w : World} (h : DkAt K db d w) (hR : ∀ k, R k → K k) : DkAt R db d w := by
  obtain ⟨vb, fsv, zs, h1, h2, h3, h4⟩ := h
  exact ⟨vb, fsv, zs, h1, h2, fun k hk x => h3 k hk (hR k x), fun k hk => h4 k (hR k hk)⟩
def newD (most : Int) : Dk := ⟨most, [], -1, false⟩
set_option maxRecDepth 100000 in
theorem new15_yes (most : Int) (w : World) (h1 : 1 ≤ most) (h2 : most ≤ 65536) : Calls Tryz.prog 36 #[.int .i64 most] w fun e w' => ∃ db, e = .returned (.tuple #[.pointer (some ⟨db, 0, none⟩), .int .i64 0]) ∧ Hid (DkAt (fun k => k < w.heap.size) db (newD most) w' ∧ Below w.heap.size w w') := by
  have HE : Hid (DkAt (fun k => k < w.heap.size) (w.heap.size + 1) (newD most) ((w.alloc (.cells #[.int .i64 most, .slice none 0 0, .int .i64 (-1), .bool false] 109)).alloc (.cells #[.pointer (some ⟨w.heap.size, 0, none⟩)] 43)) ∧ Below w.heap.size w ((w.alloc (.cells #[.int .i64 most, .slice none 0 0, .int .i64 (-1), .bool false] 109)).alloc (.cells #[.pointer (some ⟨w.heap.size, 0, none⟩)] 43))) := hidb (by
    have b1 := heap_alloc_new w (.cells #[.int .i64 most, .slice none 0 0, .int .i64 (-1), .bool false] 109)
    have b2 := heap_alloc_new (w.alloc (.cells #[.int .i64 most, .slice none 0 0, .int .i64 (-1), .bool false] 109)) (.cells #[.pointer (some ⟨w.heap.size, 0, none⟩)] 43)
    rw [World.size_alloc] at b2
    refine ⟨⟨w.heap.size, .slice none 0 0, [], ⟨b2, (Below.heap_alloc _ _ _ (by simp)).trans b1, World.ownsRow_nil _ _ _ _, by simp, by simp, by simp, by omega, by simp [Value.ownBlock], by simp [Value.ownBlock], by simp, by simp, by simp, h2, by simp [newD]⟩, rfl, ?_, ?_⟩, ((Below.refl _ w).alloc (Nat.le_refl _) _).alloc (by simp) _⟩
    · intro k hk
      rcases hk with x | x | x | ⟨z, hz, _⟩
      · omega
      · omega
      · simp [Value.ownBlock] at x
      · simp at hz
    · intro k hk; simp; omega)
  go_enter Tryz.func36, Tryz.ntmps36
  go_wp2_with fail
  go_ret2
  exact ⟨_, rfl, HE⟩
end Go.Proofs.YtkfohihemmjkbaaGreatDoor
