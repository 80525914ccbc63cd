/- Layer 15: Cut, Down, Used, Read, Sync. -/
import Derived.Test.YtkfohihemmjkbaaGreatDoorEL
namespace Go.Proofs.YtkfohihemmjkbaaGreatDoor
open Go.RowKit
/-- A file by its name. -/
def fileOf (fs : List Fl) (name : Bt) : Option Fl := fs.find? fun f => decide (f.name = name)
/-- A file's sectors are turned. -/
def modF (h : List Cl → List Cl) (name : Bt) (fs : List Fl) : List Fl := fs.map fun f => if f.name = name then ⟨f.name, h f.cs⟩ else f
theorem srt_ne {A B : Zs} {z : Fg × Fl} (h : (A ++ z :: B).Pairwise fun a b => klt a.2.name b.2.name) : (∀ y ∈ A, y.2.name ≠ z.2.name) ∧ (∀ y ∈ B, y.2.name ≠ z.2.name) := by
  rw [List.pairwise_append, List.pairwise_cons] at h
  refine ⟨fun y hy e => ?_, fun y hy e => ?_⟩
  · have := h.2.2 y hy z (by simp); rw [e] at this; exact klt_irr _ this
  · have := h.2.1.1 y hy; rw [e] at this; exact klt_irr _ this
theorem modF_split {A B : Zs} {g g' : Fg} {f : Fl} (h : (A ++ (g, f) :: B).Pairwise fun a b => klt a.2.name b.2.name) (t : List Cl → List Cl) : (A ++ (g', ⟨f.name, t f.cs⟩) :: B).map Prod.snd = modF t f.name ((A ++ (g, f) :: B).map Prod.snd) := by
  obtain ⟨h1, h2⟩ := srt_ne h
  unfold modF
  simp only [List.map_append, List.map_cons, List.map_map, if_true]
  congr 1
  · exact List.map_congr_left fun y hy => by simp [h1 y hy]
  · congr 1
    exact List.map_congr_left fun y hy => by simp [h2 y hy]
theorem fileOf_split {A B : Zs} {g : Fg} {f : Fl} (h : (A ++ (g, f) :: B).Pairwise fun a b => klt a.2.name b.2.name) : fileOf ((A ++ (g, f) :: B).map Prod.snd) f.name = some f := by
  obtain ⟨h1, _⟩ := srt_ne h
  unfold fileOf
  rw [List.map_append, List.find?_append, List.find?_eq_none.2]
  · simp
  · intro y hy
    obtain ⟨z, hz, rfl⟩ := List.mem_map.1 hy
    simpa using h1 z hz
theorem fileOf_none {zs : Zs} {name : Bt} (h : ¬ ∃ z ∈ zs, z.2.name = name) : fileOf (zs.map Prod.snd) name = none := by
  unfold fileOf
  rw [List.find?_eq_none]
  intro y hy
  obtain ⟨z, hz, rfl⟩ := List.mem_map.1 hy
  simpa using fun e => h ⟨z, hz, e⟩
theorem modF_none {fs : List Fl} {name : Bt} (h : fileOf fs name = none) (t : List Cl → List Cl) : modF t name fs = fs := by
  unfold fileOf at h
  rw [List.find?_eq_none] at h
  unfold modF
  conv => rhs; rw [← List.map_id fs]
  exact List.map_congr_left fun y hy => by have := h y hy; simp at this; simp [this]
set_option maxRecDepth 100000 in
theorem cut15_any {K : Nat → Prop} {db : Nat} {d : Dk} {w : World} (h : DkAt K db d w) (k : Int) (hk : -9223372036854775808 ≤ k ∧ k ≤ 9223372036854775807) : Calls Tryz.prog 42 #[.pointer (some ⟨db, 0, none⟩), .int .i64 k] w fun e w' => e = .returned (.tuple #[]) ∧ Hid (DkEnd K db { d with fuse := k } w w') := by
  obtain ⟨vb, fsv, zs, h1, h2, h3, h4⟩ := h
  have cd := h1.cd
  have c2 := h1.c2
  have f2 := h1.fr 2
  have HM := hidb (made15_any db vb w cd)
  have HE : Hid (DkEnd K db { d with fuse := k } w (w.setCell ⟨vb, 2, none⟩ (.int .i64 k))) := hidb (by
    have := ((DMid.start h1).box (fuse' := k) (off' := d.off) (W' := w.setCell ⟨vb, 2, none⟩ (.int .i64 k)) (by rw [heap_setCell_same _ _ _ _ _ _ h1.vbox]; rfl) ((Kt.refl _ _).set fun _ => rfl) hk).ends h3 h4
    rw [h2] at this
    exact this)
  clear h1 h2 h3 h4
  go_enter Tryz.func42, Tryz.ntmps42
  go_wp2_with (go_at_call 43; refine HM.out.mono ?_; clear HM; rintro e w1 ⟨rfl, rfl⟩)
  go_end0
  exact ⟨rfl, HE⟩
def usedD (d : Dk) : Nat := (d.fs.map fun f => f.cs.length).sum
/-- What Read answers. -/
def readL (d : Dk) (name : Bt) : List Sec := if d.off then [] else match fileOf d.fs name with
  | some f => f.cs.map Cl.now
  | none => []
def readE (d : Dk) (name : Bt) : Int := if d.off then 9 else match fileOf d.fs name with
  | some _ => 0
  | none => 3
def RowEnd15 (L : List Sec) (er : Int) (w : World) (e : Ending) (w' : World) : Prop := ∃ v, e = .returned (.tuple #[v, .int .i64 er]) ∧ Hid (w'.ownsRow w.heap.size 76 2 v L.length (secCs L) ∧ Below w.heap.size w w')
set_option maxRecDepth 100000 in
set_option maxHeartbeats 1000000 in
theorem read15_any {K : Nat → Prop} {db : Nat} {d : Dk} {w : World} (h : DkAt K db d w) (name : Bt) : Calls Tryz.prog 29 #[.pointer (some ⟨db, 0, none⟩), sv name] w (RowEnd15 (readL d name) (readE d name) w) := by
  obtain ⟨vb, fsv, zs, h1, h2, h3, h4⟩ := h
  have cd := h1.cd
  have c1 := h1.c1
  have hn := h1.nf
  have HR := hidb (ready15_any h1)
  cases ho : d.off with
  | true =>
    rw [ho] at HR
    have HE : Hid (RowEnd15 (readL d name) (readE d name) w (.returned (.tuple #[.slice none 0 0, .int .i64 9])) w) := hidb (by
      unfold readL readE
      rw [ho]
      exact ⟨_, rfl, hidb ⟨World.ownsRow_nil _ _ _ _, Below.refl _ _⟩⟩)
    simp only [if_true] at HR
    clear h1 h2 h3 h4
    go_enter Tryz.func29, Tryz.ntmps29
    go_wp2_with (first
      | (go_at_call 56; refine HR.out.mono ?_; clear HR; rintro e w1 ⟨rfl, rfl⟩)
      | fail)
    go_ret2
    exact HE.out
  | false =>
    rw [ho] at HR
    simp only [Bool.false_eq_true, if_false] at HR
    by_cases hex : ∃ z ∈ zs, z.2.name = name
    · have HF := hidb (find_yes h1 name hex)
      obtain ⟨a, c, rfl, k1, k2⟩ := h1.form
      have HA : Hid (∀ p, Fnd zs name p true → p < zs.length ∧ ∃ q fb, a = some ⟨q, 0, none⟩ ∧ w.cell? ⟨q, p, none⟩ = some (.pointer (some ⟨fb, 0, none⟩)) ∧ Hid (Calls Tryz.prog 58 #[.pointer (some ⟨fb, 1, none⟩)] w fun e w' => ∃ v, e = .returned v ∧ Hid (RowEnd15 (readL d name) (readE d name) w (.returned (.tuple #[v, .int .i64 0])) w'))) := hidb fun p hp => by
        obtain ⟨hi, e⟩ := hp.yes rfl
        obtain ⟨q, c', e', h3', _, h4', _⟩ := h1.at_ p hi
        injection e' with e' _ _
        obtain ⟨A, B, z, e5, e6, e7⟩ := hp.split
        have hz : zs[p] = z := by
          have : zs[p]? = some z := by rw [e5, List.getElem?_append_right (by omega), e6, Nat.sub_self]; rfl
          rw [List.getElem?_eq_getElem hi] at this
          injection this
        have hfo : fileOf d.fs name = some zs[p].2 := by
          have hs := h1.srt
          rw [e5] at hs
          have := fileOf_split (g := z.1) (f := z.2) hs
          rw [e7] at this
          rw [← h2, hz, e5]
          exact this
        refine ⟨hi, q, _, e', h3', hidb ?_⟩
        unfold readL readE
        rw [ho, hfo]
        refine (last15_any w _ _ h4').mono ?_
        rintro e w' ⟨v, rfl, hv⟩
        refine ⟨v, rfl, hidb ⟨v, rfl, hidb ⟨?_, hv.out.2⟩⟩⟩
        show w'.ownsRow w.heap.size 76 2 v (zs[p].2.cs.map Cl.now).length (secCs (zs[p].2.cs.map Cl.now))
        rw [List.length_map]
        exact hv.out.1
      clear h1 h2 h3 h4 hex
      generalize zs.length = n at *
      go_enter Tryz.func29, Tryz.ntmps29
      go_wp2_with (first
        | (go_at_call 56; refine HR.out.mono ?_; clear HR; rintro e w1 ⟨rfl, rfl⟩)
        | (go_at_call 57; refine HF.out.mono ?_; clear HF; rintro e w1 ⟨p, rfl, rfl, H⟩; obtain ⟨hp, q, fb, rfl, hc, HG⟩ := HA.out p H.out)
        | (go_at_call 58; refine HG.out.mono ?_; clear HG; rintro e w2 ⟨v, rfl, HE⟩)
        | fail)
      go_ret2
      exact HE.out
    · have HF := hidb (find_no h1 name hex)
      have HE : Hid (RowEnd15 (readL d name) (readE d name) w (.returned (.tuple #[.slice none 0 0, .int .i64 3])) w) := hidb (by
        unfold readL readE
        rw [ho, ← h2, fileOf_none hex]
        exact ⟨_, rfl, hidb ⟨World.ownsRow_nil _ _ _ _, Below.refl _ _⟩⟩)
      clear h1 h2 h3 h4 hex
      go_enter Tryz.func29, Tryz.ntmps29
      go_wp2_with (first
        | (go_at_call 56; refine HR.out.mono ?_; clear HR; rintro e w1 ⟨rfl, rfl⟩)
        | (go_at_call 57; refine HF.out.mono ?_; clear HF; rintro e w1 ⟨p, rfl, rfl, H⟩)
        | fail)
      go_ret2
      exact HE.out
/-- What Sync comes to. -/
def syncE (d : Dk) (name : Bt) : Int := if d.off then 9 else if d.fuse = 0 then 9 else match fileOf d.fs name with
  | some _ => 0
  | none => 3
def syncD (d : Dk) (name : Bt) : Dk := if d.off then d else if d.fuse = 0 then { d with off := true } else ⟨d.most, modF syncC name d.fs, burnF d.fuse, d.off⟩
set_option maxRecDepth 100000 in
set_option maxHeartbeats 1000000 in
theorem dsync_any {K : Nat → Prop} {db : Nat} {d : Dk} {w : World} (h : DkAt K db d w) (name : Bt) : Calls Tryz.prog 30 #[.pointer (some ⟨db, 0, none⟩), sv name] w fun e w' => e = .returned (.int .i64 (syncE d name)) ∧ Hid (DkEnd K db (syncD d name) w w') := by
  obtain ⟨vb, fsv, zs, h1, h2, h3, h4⟩ := h
  have cd := h1.cd
  have HR := hidb (ready15_any h1)
  have HB := hidb (burn15_any (DMid.start h1))
  cases ho : d.off with
  | true =>
    rw [ho] at HR
    have HE : Hid (syncE d name = 9 ∧ DkEnd K db (syncD d name) w w) := hidb (by
      unfold syncE syncD
      rw [ho]
      refine ⟨rfl, ⟨vb, fsv, zs, ?_, h2, h3, h4⟩, Kt.refl _ _⟩
      simp only [if_true]
      exact h1)
    simp only [if_true] at HR
    clear h1 h2 h3 h4 HB
    go_enter Tryz.func30, Tryz.ntmps30
    go_wp2_with (first
      | (go_at_call 56; refine HR.out.mono ?_; clear HR; rintro e w1 ⟨rfl, rfl⟩)
      | fail)
    go_ret
    rw [HE.out.1]
    exact ⟨rfl, hidb HE.out.2⟩
  | false =>
    rw [ho] at HR HB
    simp only [Bool.false_eq_true, if_false] at HR
    by_cases hf : d.fuse = 0
    · have HE : Hid (∀ w', DMid (DOwn db vb fsv zs) db vb fsv zs d.most (burnF d.fuse) true w w' → syncE d name = 9 ∧ DkEnd K db (syncD d name) w w') := hidb fun w' hm => by
        unfold syncE syncD
        rw [ho, if_neg (by simp), if_pos hf, if_neg (by simp), if_pos hf]
        refine ⟨rfl, ?_⟩
        have := hm.ends h3 h4
        rw [h2] at this
        have e : burnF d.fuse = d.fuse := by rw [hf]; rfl
        rw [e] at this
        exact this
      rw [if_pos hf, if_pos hf] at HB
      clear h1 h2 h3 h4
      go_enter Tryz.func30, Tryz.ntmps30
      go_wp2_with (first
        | (go_at_call 56; refine HR.out.mono ?_; clear HR; rintro e w1 ⟨rfl, rfl⟩)
        | (go_at_call 59; refine HB.out.mono ?_; clear HB; rintro e w1 ⟨rfl, HM⟩)
        | fail)
      go_ret
      obtain ⟨e1, e2⟩ := HE.out _ HM.out
      rw [e1]
      exact ⟨rfl, hidb e2⟩
    · rw [if_neg hf, if_neg hf] at HB
      by_cases hex : ∃ z ∈ zs, z.2.name = name
      · have HF : Hid (∀ W, DMid (DOwn db vb fsv zs) db vb fsv zs d.most (burnF d.fuse) false w W → Calls Tryz.prog 57 #[.pointer (some ⟨vb, 0, none⟩), sv name] W fun e w' => ∃ (p q n c fb : Nat), e = .returned (.tuple #[.int .i64 p, .bool true]) ∧ w' = W ∧ W.cell? ⟨vb, 1, none⟩ = some (.slice (some ⟨q, 0, none⟩) n c) ∧ p < n ∧ n ≤ 256 ∧ W.cell? ⟨q, p, none⟩ = some (.pointer (some ⟨fb, 0, none⟩)) ∧ Hid (Calls Tryz.prog 60 #[.pointer (some ⟨fb, 1, none⟩)] W fun e w' => e = .returned (.tuple #[]) ∧ Hid (syncE d name = 0 ∧ DkEnd K db (syncD d name) w w'))) := hidb fun W hW => by
          refine (find_yes hW.at_ name hex).mono ?_
          rintro e w' ⟨p, rfl, rfl, H⟩
          obtain ⟨hi, en⟩ := H.out.yes rfl
          obtain ⟨q, c', e', h3', _, h4', _⟩ := hW.at_.at_ p hi
          obtain ⟨A, B, z, e5, e6, e7⟩ := H.out.split
          have hz : zs[p] = z := by
            have : zs[p]? = some z := by rw [e5, List.getElem?_append_right (by omega), e6, Nat.sub_self]; rfl
            rw [List.getElem?_eq_getElem hi] at this
            injection this
          have hs := h1.srt
          rw [e5] at hs
          have hfo : fileOf d.fs name = some z.2 := by
            have := fileOf_split (g := z.1) (f := z.2) hs
            rw [e7] at this
            rw [← h2, e5]
            exact this
          refine ⟨p, q, _, c', _, rfl, rfl, by rw [← e']; exact hW.at_.c1, hi, hW.at_.nf, h3', hidb ?_⟩
          rw [hz] at h4' ⊢
          refine (sync15_any w' _ _ h4').mono ?_
          rintro e w2 ⟨rfl, H2⟩
          refine ⟨rfl, hidb ⟨by unfold syncE; rw [ho, if_neg (by simp), if_neg hf, hfo], ?_⟩⟩
          have hW2 := hW
          rw [e5] at hW2
          obtain ⟨g', _, M⟩ := hW2.upd (g := z.1) (f := z.2) H2.out rfl (by
            have := hW2.at_.us
            simp only [List.map_append, List.map_cons, List.sum_append, List.sum_cons] at this
            simp only [syncC, List.length_map]
            omega)
          have h3b := h3
          rw [e5] at h3b
          have := M.ends (K := K) (by rw [← e5] at *; exact h3) h4
          rw [modF_split hs syncC, e7, ← e5, h2] at this
          unfold syncD
          rw [ho, if_neg (by simp), if_neg hf]
          exact this
        clear h1 h2 h3 h4 hex
        go_enter Tryz.func30, Tryz.ntmps30
        go_wp2_with (first
          | (go_at_call 56; refine HR.out.mono ?_; clear HR; rintro e w1 ⟨rfl, rfl⟩)
          | (go_at_call 59; refine HB.out.mono ?_; clear HB; rintro e w1 ⟨rfl, HM⟩; replace HF := hidb (HF.out _ HM.out); have hdc := HM.out.at_.cd)
          | (go_at_call 57; refine HF.out.mono ?_; clear HF; rintro e w2 ⟨p, q, n, c, fb, rfl, rfl, hc1, hpn, hn2, hcq, HS⟩)
          | (go_at_call 60; refine HS.out.mono ?_; clear HS; rintro e w3 ⟨rfl, HE⟩)
          | fail)
        go_ret
        rw [HE.out.1]
        exact ⟨rfl, hidb HE.out.2⟩
      · have HF : Hid (∀ W, DMid (DOwn db vb fsv zs) db vb fsv zs d.most (burnF d.fuse) false w W → Calls Tryz.prog 57 #[.pointer (some ⟨vb, 0, none⟩), sv name] W fun e w' => ∃ (p : Nat), e = .returned (.tuple #[.int .i64 p, .bool false]) ∧ w' = W ∧ Hid (syncE d name = 3 ∧ DkEnd K db (syncD d name) w W)) := hidb fun W hW => by
          refine (find_no hW.at_ name hex).mono ?_
          rintro e w' ⟨p, rfl, rfl, H⟩
          have hfo : fileOf d.fs name = none := by rw [← h2]; exact fileOf_none hex
          refine ⟨p, rfl, rfl, hidb ⟨by unfold syncE; rw [ho, if_neg (by simp), if_neg hf, hfo], ?_⟩⟩
          have := hW.ends h3 h4
          rw [h2] at this
          unfold syncD
          rw [ho, if_neg (by simp), if_neg hf, modF_none hfo]
          exact this
        clear h1 h2 h3 h4 hex
        go_enter Tryz.func30, Tryz.ntmps30
        go_wp2_with (first
          | (go_at_call 56; refine HR.out.mono ?_; clear HR; rintro e w1 ⟨rfl, rfl⟩)
          | (go_at_call 59; refine HB.out.mono ?_; clear HB; rintro e w1 ⟨rfl, HM⟩; replace HF := hidb (HF.out _ HM.out); have hdc := HM.out.at_.cd)
          | (go_at_call 57; refine HF.out.mono ?_; clear HF; rintro e w2 ⟨p, rfl, rfl, HE⟩)
          | fail)
        go_ret
        rw [HE.out.1]
        exact ⟨rfl, hidb HE.out.2⟩
end Go.Proofs.YtkfohihemmjkbaaGreatDoor
