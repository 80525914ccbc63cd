/- Layer 15: get; New, Cut, Down, Used, Sync, Read, Files. Layer 15: Cut, Down, Used, Read, Sync. -/
import Derived.Test.YthmjejmignangaaGreatDoorEJ
namespace Go.Proofs.YthmjejmignangaaGreatDoor
open Go.RowKit
theorem strings_clone (s : Bt) (w : World) (hs : s.length ≤ 281474976710656) : Calls Tryz.prog 31 #[sv s] w fun e w' => e = .returned (sv s) ∧ Below w.heap.size w w' := by
  have hc := hidb (Tryz.stringslite_Clone ⟨s.toArray⟩ w (by show s.toArray.size ≤ _; simpa using hs))
  go_enter Tryz.func31, Tryz.ntmps31
  go_wp2_with (go_at_call 61; refine hc.out.mono ?_; clear hc; rintro e w' ⟨rfl, hb⟩)
  go_ret
  exact ⟨rfl, hb⟩
/-- What get answers: a file of the disk's, or a new one. -/
inductive Got (db vb : Nat) (fsv : Value) (zs : Zs) (most fuse : Int) (off : Bool) (name : Bt) (w w' : World) (g : Fg) (f : Fl) : Prop
  | old (A B : Zs) (e : zs = A ++ (g, f) :: B) (hn : f.name = name) (hw : w' = w)
  | new (hne : ∀ z ∈ zs, z.2.name ≠ name) (hg : g = ⟨g.fb, .slice none 0 0, none⟩) (hf : f = ⟨name, []⟩) (hfb : w.heap.size ≤ g.fb) (hat : FlAt w' g f) (hb : Below w.heap.size w w')
theorem Fnd.none {zs : Zs} {name : Bt} {p : Nat} (hs : zs.Pairwise fun a b => klt a.2.name b.2.name) (h : Fnd zs name p false) (z : Fg × Fl) (hz : z ∈ zs) : z.2.name ≠ name := by
  obtain ⟨t, ht, rfl⟩ := List.getElem_of_mem hz
  intro e
  by_cases x : t < p
  · have := h.lo t ht x
    rw [e] at this
    exact klt_irr _ this
  · by_cases y : t = p
    · subst y; exact h.no rfl ht e
    · have hp : p < zs.length := by omega
      have := srt_lt hs hp ht (by omega)
      rw [e] at this
      exact h.hi p hp (Nat.le_refl _) this
theorem find_yes {db vb : Nat} {fsv : Value} {zs : Zs} {most fuse : Int} {off : Bool} {w : World} (h : DAt db vb fsv zs most fuse off w) (name : Bt) (hex : ∃ z ∈ zs, z.2.name = name) : Calls Tryz.prog 57 #[.pointer (some ⟨vb, 0, none⟩), sv name] w fun e w' => ∃ p : Nat, e = .returned (.tuple #[.int .i64 p, .bool true]) ∧ w' = w ∧ Hid (Fnd zs name p true) := by
  refine (find15_any db vb fsv zs most fuse off w name h).mono ?_
  rintro e w' ⟨p, b, rfl, rfl, H⟩
  cases b with
  | true => exact ⟨p, rfl, rfl, H⟩
  | false =>
    obtain ⟨z, hz, e⟩ := hex
    exact absurd e (H.out.none h.srt z hz)
theorem find_no {db vb : Nat} {fsv : Value} {zs : Zs} {most fuse : Int} {off : Bool} {w : World} (h : DAt db vb fsv zs most fuse off w) (name : Bt) (hex : ¬ ∃ z ∈ zs, z.2.name = name) : Calls Tryz.prog 57 #[.pointer (some ⟨vb, 0, none⟩), sv name] w fun e w' => ∃ p : Nat, e = .returned (.tuple #[.int .i64 p, .bool false]) ∧ w' = w ∧ Hid (Fnd zs name p false) := by
  refine (find15_any db vb fsv zs most fuse off w name h).mono ?_
  rintro e w' ⟨p, b, rfl, rfl, H⟩
  cases b with
  | false => exact ⟨p, rfl, rfl, H⟩
  | true =>
    obtain ⟨hp, e⟩ := H.out.yes rfl
    exact absurd ⟨_, List.getElem_mem hp, e⟩ hex
/-- A file of the disk, by its place. -/
theorem Fnd.split {zs : Zs} {name : Bt} {p : Nat} (h : Fnd zs name p true) : ∃ A B z, zs = A ++ z :: B ∧ A.length = p ∧ z.2.name = name := by
  obtain ⟨hp, e⟩ := h.yes rfl
  refine ⟨zs.take p, zs.drop (p + 1), zs[p], ?_, by rw [List.length_take]; omega, e⟩
  rw [List.getElem_cons_drop, List.take_append_drop]
set_option maxRecDepth 100000 in
theorem get15_any {db vb : Nat} {fsv : Value} {zs : Zs} {most fuse : Int} {off : Bool} {w : World} (h : DAt db vb fsv zs most fuse off w) (name : Bt) (hl : name.length ≤ 281474976710656) : Calls Tryz.prog 77 #[.pointer (some ⟨vb, 0, none⟩), sv name] w fun e w' => ∃ q, e = .returned (.pointer (some ⟨q, 0, none⟩)) ∧ Hid (∃ g f, g.fb = q ∧ Got db vb fsv zs most fuse off name w w' g f) := by
  have c1 := h.c1
  have HC := hidb (strings_clone name w hl)
  have hn := h.nf
  by_cases hex : ∃ z ∈ zs, z.2.name = name
  · have HF := hidb (find_yes h name hex)
    obtain ⟨a, c, rfl, h1, h2⟩ := h.form
    have HA : Hid (∀ p, Fnd zs name p true → p < zs.length ∧ ∃ q fb, a = some ⟨q, 0, none⟩ ∧ w.cell? ⟨q, p, none⟩ = some (.pointer (some ⟨fb, 0, none⟩)) ∧ Hid (∃ g f, g.fb = fb ∧ Got db vb (.slice a zs.length c) zs most fuse off name w w g f)) := hidb fun p hp => by
      obtain ⟨hi, e⟩ := hp.yes rfl
      obtain ⟨q, c', e', h3, _, h4, _⟩ := h.at_ p hi
      injection e' with e' _ _
      refine ⟨hi, q, _, e', h3, hidb ⟨zs[p].1, zs[p].2, rfl, .old (zs.take p) (zs.drop (p + 1)) ?_ e rfl⟩⟩
      rw [show (zs[p].1, zs[p].2) = zs[p] from rfl, List.getElem_cons_drop, List.take_append_drop]
    clear h
    generalize zs.length = n at *
    go_enter Tryz.func77, Tryz.ntmps77
    go_wp2_with (first
      | (go_at_call 57; refine HF.out.mono ?_; clear HF; rintro e w1 ⟨p, rfl, rfl, H⟩; obtain ⟨hp, q, fb, rfl, hc, HG⟩ := HA.out p H.out)
      | fail)
    go_ret
    exact ⟨_, rfl, HG⟩
  · have HF := hidb (find_no h name hex)
    obtain ⟨a, c, rfl, h1, h2⟩ := h.form
    have HB : Hid (∀ w1, Below w.heap.size w w1 → ∃ g f, g.fb = w1.heap.size ∧ Got db vb (.slice a zs.length c) zs most fuse off name w (w1.alloc (.cells #[sv name, .slice none 0 0, .map none] 116)) g f) := hidb fun w1 hb => by
      refine ⟨⟨w1.heap.size, .slice none 0 0, none⟩, ⟨name, []⟩, rfl, .new (fun z hz e => hex ⟨z, hz, e⟩) rfl rfl hb.size ?_ (hb.alloc hb.size _)⟩
      exact ⟨heap_alloc_new w1 _, World.ownsRow_nil _ _ _ _, .inl ⟨rfl, fun _ => rfl⟩, by simp, by simp [Value.ownBlock], by simp, fun k hk => by simp [Value.ownBlock] at hk⟩
    clear h hex
    generalize zs.length = n at *
    go_enter Tryz.func77, Tryz.ntmps77
    go_wp2_with (first
      | (go_at_call 57; refine HF.out.mono ?_; clear HF; rintro e w1 ⟨p, rfl, rfl, H⟩)
      | (go_at_call 31; refine HC.out.mono ?_; clear HC; rintro e w2 ⟨rfl, hb⟩)
      | fail)
    go_ret
    exact ⟨_, rfl, hidb (HB.out w2 hb)⟩
/-- The disk at db is d; what K holds is none of it. -/
def DkAt (K : Nat → Prop) (db : Nat) (d : Dk) (w : World) : Prop := ∃ vb fsv zs, DAt db vb fsv zs d.most d.fuse d.off w ∧ zs.map Prod.snd = d.fs ∧ (∀ k, DOwn db vb fsv zs k → ¬ K k) ∧ (∀ k, K k → k < w.heap.size)
/-- What a call leaves that changes the disk. -/
def DkEnd (K : Nat → Prop) (db : Nat) (d : Dk) (w w' : World) : Prop := DkAt K db d w' ∧ Kt (fun k => ¬ K k) w w'
theorem DMid.ends {K : Nat → Prop} {db vb vb' : Nat} {fsv fsv' : Value} {zs zs' : Zs} {most fuse : Int} {off : Bool} {w W : World} (h : DMid (DOwn db vb fsv zs) db vb' fsv' zs' most fuse off w W) (hK : ∀ k, DOwn db vb fsv zs k → ¬ K k) (hl : ∀ k, K k → k < w.heap.size) : DkEnd K db ⟨most, zs'.map Prod.snd, fuse, off⟩ w W :=
  ⟨⟨vb', fsv', zs', h.at_, rfl, fun k hk hk2 => by
    rcases h.has k hk with x | x
    · exact hK k x hk2
    · have := hl k hk2; omega, fun k hk => Nat.lt_of_lt_of_le (hl k hk) h.kt.size⟩, h.kt.mono fun k _ x => hK k x⟩
theorem DkAt.below {K : Nat → Prop} {db : Nat} {d : Dk} {w w' : World} (h : DkAt K db d w) (b : Below w.heap.size w w') : DkAt K db d w' := by
  obtain ⟨vb, fsv, zs, h1, h2, h3, h4⟩ := h
  exact ⟨vb, fsv, zs, h1.below b, h2, h3, fun k hk => Nat.lt_of_lt_of_le (h4 k hk) b.size⟩
/-- What is new may be held, too. -/
theorem DkAt.more {K : Nat → Prop} {db : Nat} {d : Dk} {w w' : World} (h : DkAt K db d w) (b : Below w.heap.size w w') (R : Nat → Prop) (hR : ∀ k, R k → w.heap.size ≤ k ∧ k < w'.heap.size) : DkAt (fun k => K k ∨ R k) db d w' := by
  obtain ⟨vb, fsv, zs, h1, h2, h3, h4⟩ := h
  refine ⟨vb, fsv, zs, h1.below b, h2, fun k hk hk2 => ?_, fun k hk => ?_⟩
  · rcases hk2 with x | x
    · exact h3 k hk x
    · have := (hR k x).1; have := h1.lts k hk; omega
  · rcases hk with x | x
    · exact Nat.lt_of_lt_of_le (h4 k x) b.size
    · exact (hR k x).2
theorem DkAt.less {K R : Nat → Prop} {db : Nat} {d : Dk} {w : World} (h : DkAt K db d w) (hR : ∀ k, R k → K k) : DkAt R db d w := by
  obtain ⟨vb, fsv, zs, h1, h2, h3, h4⟩ := h
  exact ⟨vb, fsv, zs, h1, h2, fun k hk x => h3 k hk (hR k x), fun k hk => h4 k (hR k hk)⟩
def newD (most : Int) : Dk := ⟨most, [], -1, false⟩
set_option maxRecDepth 100000 in
theorem new15_yes (most : Int) (w : World) (h1 : 1 ≤ most) (h2 : most ≤ 65536) : Calls Tryz.prog 36 #[.int .i64 most] w fun e w' => ∃ db, e = .returned (.tuple #[.pointer (some ⟨db, 0, none⟩), .int .i64 0]) ∧ Hid (DkAt (fun k => k < w.heap.size) db (newD most) w' ∧ Below w.heap.size w w') := by
  have HE : Hid (DkAt (fun k => k < w.heap.size) (w.heap.size + 1) (newD most) ((w.alloc (.cells #[.int .i64 most, .slice none 0 0, .int .i64 (-1), .bool false] 109)).alloc (.cells #[.pointer (some ⟨w.heap.size, 0, none⟩)] 43)) ∧ Below w.heap.size w ((w.alloc (.cells #[.int .i64 most, .slice none 0 0, .int .i64 (-1), .bool false] 109)).alloc (.cells #[.pointer (some ⟨w.heap.size, 0, none⟩)] 43))) := hidb (by
    have b1 := heap_alloc_new w (.cells #[.int .i64 most, .slice none 0 0, .int .i64 (-1), .bool false] 109)
    have b2 := heap_alloc_new (w.alloc (.cells #[.int .i64 most, .slice none 0 0, .int .i64 (-1), .bool false] 109)) (.cells #[.pointer (some ⟨w.heap.size, 0, none⟩)] 43)
    rw [World.size_alloc] at b2
    refine ⟨⟨w.heap.size, .slice none 0 0, [], ⟨b2, (Below.heap_alloc _ _ _ (by simp)).trans b1, World.ownsRow_nil _ _ _ _, by simp, by simp, by simp, by omega, by simp [Value.ownBlock], by simp [Value.ownBlock], by simp, by simp, by simp, h2, by simp [newD]⟩, rfl, ?_, ?_⟩, ((Below.refl _ w).alloc (Nat.le_refl _) _).alloc (by simp) _⟩
    · intro k hk
      rcases hk with x | x | x | ⟨z, hz, _⟩
      · omega
      · omega
      · simp [Value.ownBlock] at x
      · simp at hz
    · intro k hk; simp; omega)
  go_enter Tryz.func36, Tryz.ntmps36
  go_wp2_with fail
  go_ret2
  exact ⟨_, rfl, HE⟩
end Go.Proofs.YthmjejmignangaaGreatDoor
namespace Go.Proofs.YthmjejmignangaaGreatDoor
open Go.RowKit
/-- A file by its name. -/
def fileOf (fs : List Fl) (name : Bt) : Option Fl := fs.find? fun f => decide (f.name = name)
/-- A file's sectors are turned. -/
def modF (h : List Cl → List Cl) (name : Bt) (fs : List Fl) : List Fl := fs.map fun f => if f.name = name then ⟨f.name, h f.cs⟩ else f
theorem srt_ne {A B : Zs} {z : Fg × Fl} (h : (A ++ z :: B).Pairwise fun a b => klt a.2.name b.2.name) : (∀ y ∈ A, y.2.name ≠ z.2.name) ∧ (∀ y ∈ B, y.2.name ≠ z.2.name) := by
  rw [List.pairwise_append, List.pairwise_cons] at h
  refine ⟨fun y hy e => ?_, fun y hy e => ?_⟩
  · have := h.2.2 y hy z (by simp); rw [e] at this; exact klt_irr _ this
  · have := h.2.1.1 y hy; rw [e] at this; exact klt_irr _ this
theorem modF_split {A B : Zs} {g g' : Fg} {f : Fl} (h : (A ++ (g, f) :: B).Pairwise fun a b => klt a.2.name b.2.name) (t : List Cl → List Cl) : (A ++ (g', ⟨f.name, t f.cs⟩) :: B).map Prod.snd = modF t f.name ((A ++ (g, f) :: B).map Prod.snd) := by
  obtain ⟨h1, h2⟩ := srt_ne h
  unfold modF
  simp only [List.map_append, List.map_cons, List.map_map, if_true]
  congr 1
  · exact List.map_congr_left fun y hy => by simp [h1 y hy]
  · congr 1
    exact List.map_congr_left fun y hy => by simp [h2 y hy]
theorem fileOf_split {A B : Zs} {g : Fg} {f : Fl} (h : (A ++ (g, f) :: B).Pairwise fun a b => klt a.2.name b.2.name) : fileOf ((A ++ (g, f) :: B).map Prod.snd) f.name = some f := by
  obtain ⟨h1, _⟩ := srt_ne h
  unfold fileOf
  rw [List.map_append, List.find?_append, List.find?_eq_none.2]
  · simp
  · intro y hy
    obtain ⟨z, hz, rfl⟩ := List.mem_map.1 hy
    simpa using h1 z hz
theorem fileOf_none {zs : Zs} {name : Bt} (h : ¬ ∃ z ∈ zs, z.2.name = name) : fileOf (zs.map Prod.snd) name = none := by
  unfold fileOf
  rw [List.find?_eq_none]
  intro y hy
  obtain ⟨z, hz, rfl⟩ := List.mem_map.1 hy
  simpa using fun e => h ⟨z, hz, e⟩
theorem modF_none {fs : List Fl} {name : Bt} (h : fileOf fs name = none) (t : List Cl → List Cl) : modF t name fs = fs := by
  unfold fileOf at h
  rw [List.find?_eq_none] at h
  unfold modF
  conv => rhs; rw [← List.map_id fs]
  exact List.map_congr_left fun y hy => by have := h y hy; simp at this; simp [this]
set_option maxRecDepth 100000 in
theorem cut15_any {K : Nat → Prop} {db : Nat} {d : Dk} {w : World} (h : DkAt K db d w) (k : Int) (hk : -9223372036854775808 ≤ k ∧ k ≤ 9223372036854775807) : Calls Tryz.prog 42 #[.pointer (some ⟨db, 0, none⟩), .int .i64 k] w fun e w' => e = .returned (.tuple #[]) ∧ Hid (DkEnd K db { d with fuse := k } w w') := by
  obtain ⟨vb, fsv, zs, h1, h2, h3, h4⟩ := h
  have cd := h1.cd
  have c2 := h1.c2
  have f2 := h1.fr 2
  have HM := hidb (made15_any db vb w cd)
  have HE : Hid (DkEnd K db { d with fuse := k } w (w.setCell ⟨vb, 2, none⟩ (.int .i64 k))) := hidb (by
    have := ((DMid.start h1).box (fuse' := k) (off' := d.off) (W' := w.setCell ⟨vb, 2, none⟩ (.int .i64 k)) (by rw [heap_setCell_same _ _ _ _ _ _ h1.vbox]; rfl) ((Kt.refl _ _).set fun _ => rfl) hk).ends h3 h4
    rw [h2] at this
    exact this)
  clear h1 h2 h3 h4
  go_enter Tryz.func42, Tryz.ntmps42
  go_wp2_with (go_at_call 43; refine HM.out.mono ?_; clear HM; rintro e w1 ⟨rfl, rfl⟩)
  go_end0
  exact ⟨rfl, HE⟩
def usedD (d : Dk) : Nat := (d.fs.map fun f => f.cs.length).sum
/-- What Read answers. -/
def readL (d : Dk) (name : Bt) : List Sec := if d.off then [] else match fileOf d.fs name with
  | some f => f.cs.map Cl.now
  | none => []
def readE (d : Dk) (name : Bt) : Int := if d.off then 9 else match fileOf d.fs name with
  | some _ => 0
  | none => 3
def RowEnd15 (L : List Sec) (er : Int) (w : World) (e : Ending) (w' : World) : Prop := ∃ v, e = .returned (.tuple #[v, .int .i64 er]) ∧ Hid (w'.ownsRow w.heap.size 76 2 v L.length (secCs L) ∧ Below w.heap.size w w')
set_option maxRecDepth 100000 in
set_option maxHeartbeats 1000000 in
theorem read15_any {K : Nat → Prop} {db : Nat} {d : Dk} {w : World} (h : DkAt K db d w) (name : Bt) : Calls Tryz.prog 29 #[.pointer (some ⟨db, 0, none⟩), sv name] w (RowEnd15 (readL d name) (readE d name) w) := by
  obtain ⟨vb, fsv, zs, h1, h2, h3, h4⟩ := h
  have cd := h1.cd
  have c1 := h1.c1
  have hn := h1.nf
  have HR := hidb (ready15_any h1)
  cases ho : d.off with
  | true =>
    rw [ho] at HR
    have HE : Hid (RowEnd15 (readL d name) (readE d name) w (.returned (.tuple #[.slice none 0 0, .int .i64 9])) w) := hidb (by
      unfold readL readE
      rw [ho]
      exact ⟨_, rfl, hidb ⟨World.ownsRow_nil _ _ _ _, Below.refl _ _⟩⟩)
    simp only [if_true] at HR
    clear h1 h2 h3 h4
    go_enter Tryz.func29, Tryz.ntmps29
    go_wp2_with (first
      | (go_at_call 56; refine HR.out.mono ?_; clear HR; rintro e w1 ⟨rfl, rfl⟩)
      | fail)
    go_ret2
    exact HE.out
  | false =>
    rw [ho] at HR
    simp only [Bool.false_eq_true, if_false] at HR
    by_cases hex : ∃ z ∈ zs, z.2.name = name
    · have HF := hidb (find_yes h1 name hex)
      obtain ⟨a, c, rfl, k1, k2⟩ := h1.form
      have HA : Hid (∀ p, Fnd zs name p true → p < zs.length ∧ ∃ q fb, a = some ⟨q, 0, none⟩ ∧ w.cell? ⟨q, p, none⟩ = some (.pointer (some ⟨fb, 0, none⟩)) ∧ Hid (Calls Tryz.prog 58 #[.pointer (some ⟨fb, 1, none⟩)] w fun e w' => ∃ v, e = .returned v ∧ Hid (RowEnd15 (readL d name) (readE d name) w (.returned (.tuple #[v, .int .i64 0])) w'))) := hidb fun p hp => by
        obtain ⟨hi, e⟩ := hp.yes rfl
        obtain ⟨q, c', e', h3', _, h4', _⟩ := h1.at_ p hi
        injection e' with e' _ _
        obtain ⟨A, B, z, e5, e6, e7⟩ := hp.split
        have hz : zs[p] = z := by
          have : zs[p]? = some z := by rw [e5, List.getElem?_append_right (by omega), e6, Nat.sub_self]; rfl
          rw [List.getElem?_eq_getElem hi] at this
          injection this
        have hfo : fileOf d.fs name = some zs[p].2 := by
          have hs := h1.srt
          rw [e5] at hs
          have := fileOf_split (g := z.1) (f := z.2) hs
          rw [e7] at this
          rw [← h2, hz, e5]
          exact this
        refine ⟨hi, q, _, e', h3', hidb ?_⟩
        unfold readL readE
        rw [ho, hfo]
        refine (last15_any w _ _ h4').mono ?_
        rintro e w' ⟨v, rfl, hv⟩
        refine ⟨v, rfl, hidb ⟨v, rfl, hidb ⟨?_, hv.out.2⟩⟩⟩
        show w'.ownsRow w.heap.size 76 2 v (zs[p].2.cs.map Cl.now).length (secCs (zs[p].2.cs.map Cl.now))
        rw [List.length_map]
        exact hv.out.1
      clear h1 h2 h3 h4 hex
      generalize zs.length = n at *
      go_enter Tryz.func29, Tryz.ntmps29
      go_wp2_with (first
        | (go_at_call 56; refine HR.out.mono ?_; clear HR; rintro e w1 ⟨rfl, rfl⟩)
        | (go_at_call 57; refine HF.out.mono ?_; clear HF; rintro e w1 ⟨p, rfl, rfl, H⟩; obtain ⟨hp, q, fb, rfl, hc, HG⟩ := HA.out p H.out)
        | (go_at_call 58; refine HG.out.mono ?_; clear HG; rintro e w2 ⟨v, rfl, HE⟩)
        | fail)
      go_ret2
      exact HE.out
    · have HF := hidb (find_no h1 name hex)
      have HE : Hid (RowEnd15 (readL d name) (readE d name) w (.returned (.tuple #[.slice none 0 0, .int .i64 3])) w) := hidb (by
        unfold readL readE
        rw [ho, ← h2, fileOf_none hex]
        exact ⟨_, rfl, hidb ⟨World.ownsRow_nil _ _ _ _, Below.refl _ _⟩⟩)
      clear h1 h2 h3 h4 hex
      go_enter Tryz.func29, Tryz.ntmps29
      go_wp2_with (first
        | (go_at_call 56; refine HR.out.mono ?_; clear HR; rintro e w1 ⟨rfl, rfl⟩)
        | (go_at_call 57; refine HF.out.mono ?_; clear HF; rintro e w1 ⟨p, rfl, rfl, H⟩)
        | fail)
      go_ret2
      exact HE.out
/-- What Sync comes to. -/
def syncE (d : Dk) (name : Bt) : Int := if d.off then 9 else if d.fuse = 0 then 9 else match fileOf d.fs name with
  | some _ => 0
  | none => 3
def syncD (d : Dk) (name : Bt) : Dk := if d.off then d else if d.fuse = 0 then { d with off := true } else ⟨d.most, modF syncC name d.fs, burnF d.fuse, d.off⟩
set_option maxRecDepth 100000 in
set_option maxHeartbeats 1000000 in
theorem dsync_any {K : Nat → Prop} {db : Nat} {d : Dk} {w : World} (h : DkAt K db d w) (name : Bt) : Calls Tryz.prog 30 #[.pointer (some ⟨db, 0, none⟩), sv name] w fun e w' => e = .returned (.int .i64 (syncE d name)) ∧ Hid (DkEnd K db (syncD d name) w w') := by
  obtain ⟨vb, fsv, zs, h1, h2, h3, h4⟩ := h
  have cd := h1.cd
  have HR := hidb (ready15_any h1)
  have HB := hidb (burn15_any (DMid.start h1))
  cases ho : d.off with
  | true =>
    rw [ho] at HR
    have HE : Hid (syncE d name = 9 ∧ DkEnd K db (syncD d name) w w) := hidb (by
      unfold syncE syncD
      rw [ho]
      refine ⟨rfl, ⟨vb, fsv, zs, ?_, h2, h3, h4⟩, Kt.refl _ _⟩
      simp only [if_true]
      exact h1)
    simp only [if_true] at HR
    clear h1 h2 h3 h4 HB
    go_enter Tryz.func30, Tryz.ntmps30
    go_wp2_with (first
      | (go_at_call 56; refine HR.out.mono ?_; clear HR; rintro e w1 ⟨rfl, rfl⟩)
      | fail)
    go_ret
    rw [HE.out.1]
    exact ⟨rfl, hidb HE.out.2⟩
  | false =>
    rw [ho] at HR HB
    simp only [Bool.false_eq_true, if_false] at HR
    by_cases hf : d.fuse = 0
    · have HE : Hid (∀ w', DMid (DOwn db vb fsv zs) db vb fsv zs d.most (burnF d.fuse) true w w' → syncE d name = 9 ∧ DkEnd K db (syncD d name) w w') := hidb fun w' hm => by
        unfold syncE syncD
        rw [ho, if_neg (by simp), if_pos hf, if_neg (by simp), if_pos hf]
        refine ⟨rfl, ?_⟩
        have := hm.ends h3 h4
        rw [h2] at this
        have e : burnF d.fuse = d.fuse := by rw [hf]; rfl
        rw [e] at this
        exact this
      rw [if_pos hf, if_pos hf] at HB
      clear h1 h2 h3 h4
      go_enter Tryz.func30, Tryz.ntmps30
      go_wp2_with (first
        | (go_at_call 56; refine HR.out.mono ?_; clear HR; rintro e w1 ⟨rfl, rfl⟩)
        | (go_at_call 59; refine HB.out.mono ?_; clear HB; rintro e w1 ⟨rfl, HM⟩)
        | fail)
      go_ret
      obtain ⟨e1, e2⟩ := HE.out _ HM.out
      rw [e1]
      exact ⟨rfl, hidb e2⟩
    · rw [if_neg hf, if_neg hf] at HB
      by_cases hex : ∃ z ∈ zs, z.2.name = name
      · have HF : Hid (∀ W, DMid (DOwn db vb fsv zs) db vb fsv zs d.most (burnF d.fuse) false w W → Calls Tryz.prog 57 #[.pointer (some ⟨vb, 0, none⟩), sv name] W fun e w' => ∃ (p q n c fb : Nat), e = .returned (.tuple #[.int .i64 p, .bool true]) ∧ w' = W ∧ W.cell? ⟨vb, 1, none⟩ = some (.slice (some ⟨q, 0, none⟩) n c) ∧ p < n ∧ n ≤ 256 ∧ W.cell? ⟨q, p, none⟩ = some (.pointer (some ⟨fb, 0, none⟩)) ∧ Hid (Calls Tryz.prog 60 #[.pointer (some ⟨fb, 1, none⟩)] W fun e w' => e = .returned (.tuple #[]) ∧ Hid (syncE d name = 0 ∧ DkEnd K db (syncD d name) w w'))) := hidb fun W hW => by
          refine (find_yes hW.at_ name hex).mono ?_
          rintro e w' ⟨p, rfl, rfl, H⟩
          obtain ⟨hi, en⟩ := H.out.yes rfl
          obtain ⟨q, c', e', h3', _, h4', _⟩ := hW.at_.at_ p hi
          obtain ⟨A, B, z, e5, e6, e7⟩ := H.out.split
          have hz : zs[p] = z := by
            have : zs[p]? = some z := by rw [e5, List.getElem?_append_right (by omega), e6, Nat.sub_self]; rfl
            rw [List.getElem?_eq_getElem hi] at this
            injection this
          have hs := h1.srt
          rw [e5] at hs
          have hfo : fileOf d.fs name = some z.2 := by
            have := fileOf_split (g := z.1) (f := z.2) hs
            rw [e7] at this
            rw [← h2, e5]
            exact this
          refine ⟨p, q, _, c', _, rfl, rfl, by rw [← e']; exact hW.at_.c1, hi, hW.at_.nf, h3', hidb ?_⟩
          rw [hz] at h4' ⊢
          refine (sync15_any w' _ _ h4').mono ?_
          rintro e w2 ⟨rfl, H2⟩
          refine ⟨rfl, hidb ⟨by unfold syncE; rw [ho, if_neg (by simp), if_neg hf, hfo], ?_⟩⟩
          have hW2 := hW
          rw [e5] at hW2
          obtain ⟨g', _, M⟩ := hW2.upd (g := z.1) (f := z.2) H2.out rfl (by
            have := hW2.at_.us
            simp only [List.map_append, List.map_cons, List.sum_append, List.sum_cons] at this
            simp only [syncC, List.length_map]
            omega)
          have h3b := h3
          rw [e5] at h3b
          have := M.ends (K := K) (by rw [← e5] at *; exact h3) h4
          rw [modF_split hs syncC, e7, ← e5, h2] at this
          unfold syncD
          rw [ho, if_neg (by simp), if_neg hf]
          exact this
        clear h1 h2 h3 h4 hex
        go_enter Tryz.func30, Tryz.ntmps30
        go_wp2_with (first
          | (go_at_call 56; refine HR.out.mono ?_; clear HR; rintro e w1 ⟨rfl, rfl⟩)
          | (go_at_call 59; refine HB.out.mono ?_; clear HB; rintro e w1 ⟨rfl, HM⟩; replace HF := hidb (HF.out _ HM.out); have hdc := HM.out.at_.cd)
          | (go_at_call 57; refine HF.out.mono ?_; clear HF; rintro e w2 ⟨p, q, n, c, fb, rfl, rfl, hc1, hpn, hn2, hcq, HS⟩)
          | (go_at_call 60; refine HS.out.mono ?_; clear HS; rintro e w3 ⟨rfl, HE⟩)
          | fail)
        go_ret
        rw [HE.out.1]
        exact ⟨rfl, hidb HE.out.2⟩
      · have HF : Hid (∀ W, DMid (DOwn db vb fsv zs) db vb fsv zs d.most (burnF d.fuse) false w W → Calls Tryz.prog 57 #[.pointer (some ⟨vb, 0, none⟩), sv name] W fun e w' => ∃ (p : Nat), e = .returned (.tuple #[.int .i64 p, .bool false]) ∧ w' = W ∧ Hid (syncE d name = 3 ∧ DkEnd K db (syncD d name) w W)) := hidb fun W hW => by
          refine (find_no hW.at_ name hex).mono ?_
          rintro e w' ⟨p, rfl, rfl, H⟩
          have hfo : fileOf d.fs name = none := by rw [← h2]; exact fileOf_none hex
          refine ⟨p, rfl, rfl, hidb ⟨by unfold syncE; rw [ho, if_neg (by simp), if_neg hf, hfo], ?_⟩⟩
          have := hW.ends h3 h4
          rw [h2] at this
          unfold syncD
          rw [ho, if_neg (by simp), if_neg hf, modF_none hfo]
          exact this
        clear h1 h2 h3 h4 hex
        go_enter Tryz.func30, Tryz.ntmps30
        go_wp2_with (first
          | (go_at_call 56; refine HR.out.mono ?_; clear HR; rintro e w1 ⟨rfl, rfl⟩)
          | (go_at_call 59; refine HB.out.mono ?_; clear HB; rintro e w1 ⟨rfl, HM⟩; replace HF := hidb (HF.out _ HM.out); have hdc := HM.out.at_.cd)
          | (go_at_call 57; refine HF.out.mono ?_; clear HF; rintro e w2 ⟨p, rfl, rfl, HE⟩)
          | fail)
        go_ret
        rw [HE.out.1]
        exact ⟨rfl, hidb HE.out.2⟩
end Go.Proofs.YthmjejmignangaaGreatDoor
