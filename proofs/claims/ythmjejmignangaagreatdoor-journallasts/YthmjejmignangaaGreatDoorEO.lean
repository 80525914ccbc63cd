/- Layer 15: Write. -/
import Derived.Test.YthmjejmignangaaGreatDoorEN
namespace Go.Proofs.YthmjejmignangaaGreatDoor
open Go.RowKit
def csOf (fs : List Fl) (name : Bt) : List Cl := match fileOf fs name with
  | some f => f.cs
  | none => []
def insF (fs : List Fl) (f : Fl) : List Fl := (fs.filter fun g => decide (Lib.compareBytes g.name f.name < 0)) ++ f :: (fs.filter fun g => !decide (Lib.compareBytes g.name f.name < 0))
def putF (fs : List Fl) (name : Bt) (at_ : Nat) (x : Sec) : List Fl := match fileOf fs name with
  | some _ => modF (fun cs => wrC cs at_ x) name fs
  | none => insF fs ⟨name, wrC [] at_ x⟩
def fullD (d : Dk) (n at_ : Nat) : Bool := (decide (at_ = n) && decide (d.most ≤ (usedD d : Nat))) || (decide (n = 0) && decide (256 ≤ d.fs.length))
/-- What Write answers. -/
def writeE (d : Dk) (name : Bt) (at_ : Int) (b : Bt) : Int :=
  if d.off then 9 else if nameB name = false ∨ 64 < b.length then 1 else if at_ < 0 ∨ ((csOf d.fs name).length : Int) < at_ then 1
  else if fullD d (csOf d.fs name).length at_.toNat then 7 else if d.fuse = 0 then 9 else 0
/-- .. and what is there then. -/
def writeD (d : Dk) (name : Bt) (at_ : Int) (b : Bt) : Dk :=
  if d.off then d else if nameB name = false ∨ 64 < b.length then d else if at_ < 0 ∨ ((csOf d.fs name).length : Int) < at_ then d
  else if fullD d (csOf d.fs name).length at_.toNat then d else if d.fuse = 0 then { d with off := true } else ⟨d.most, putF d.fs name at_.toNat (fillS b), burnF d.fuse, d.off⟩
theorem insF_split {A B : Zs} {g : Fg} {f : Fl} (h1 : ∀ z ∈ A, klt z.2.name f.name) (h2 : ∀ z ∈ B, klt f.name z.2.name) : (A ++ (g, f) :: B).map Prod.snd = insF ((A ++ B).map Prod.snd) f := by
  unfold insF
  rw [List.map_append, List.map_cons, List.map_append, List.filter_append, List.filter_append]
  have a1 : (A.map Prod.snd).filter (fun g => decide (Lib.compareBytes g.name f.name < 0)) = A.map Prod.snd := List.filter_eq_self.2 fun y hy => by
    obtain ⟨z, hz, rfl⟩ := List.mem_map.1 hy
    exact decide_eq_true (h1 z hz)
  have a2 : (A.map Prod.snd).filter (fun g => !decide (Lib.compareBytes g.name f.name < 0)) = [] := List.filter_eq_nil_iff.2 fun y hy => by
    obtain ⟨z, hz, rfl⟩ := List.mem_map.1 hy
    have : decide (Lib.compareBytes z.2.name f.name < 0) = true := decide_eq_true (h1 z hz)
    rw [this]; simp
  have hb : ∀ z ∈ B, decide (Lib.compareBytes z.2.name f.name < 0) = false := fun z hz => decide_eq_false fun x => klt_irr _ (klt_trans (h2 z hz) x)
  have b1 : (B.map Prod.snd).filter (fun g => decide (Lib.compareBytes g.name f.name < 0)) = [] := List.filter_eq_nil_iff.2 fun y hy => by
    obtain ⟨z, hz, rfl⟩ := List.mem_map.1 hy
    rw [hb z hz]; simp
  have b2 : (B.map Prod.snd).filter (fun g => !decide (Lib.compareBytes g.name f.name < 0)) = B.map Prod.snd := List.filter_eq_self.2 fun y hy => by
    obtain ⟨z, hz, rfl⟩ := List.mem_map.1 hy
    rw [hb z hz]; rfl
  rw [a1, a2, b1, b2]
  simp
/-- Write's file at hand: of the disk, or a new one. -/
structure WGot (db vb : Nat) (fsv : Value) (zs : Zs) (d : Dk) (name : Bt) (w W : World) (g : Fg) (f : Fl) : Prop where
  mid : DMid (DOwn db vb fsv zs) db vb fsv zs d.most d.fuse d.off w W
  fl : FlAt W g f
  nam : f.name = name
  cs : f.cs = csOf d.fs name
  old : (∃ A B, zs = A ++ (g, f) :: B ∧ fileOf d.fs name = some f) ∨ (f.cs = [] ∧ (¬ ∃ z ∈ zs, z.2.name = name) ∧ fileOf d.fs name = none ∧ (∀ k, g.has k → w.heap.size ≤ k) ∧ ∀ k, g.has k → ¬ DOwn db vb fsv zs k)
theorem Got.w {db vb : Nat} {fsv : Value} {zs : Zs} {d : Dk} {name : Bt} {w W : World} {g : Fg} {f : Fl} (h : DAt db vb fsv zs d.most d.fuse d.off w) (h2 : zs.map Prod.snd = d.fs) (k : Got db vb fsv zs d.most d.fuse d.off name w W g f) : WGot db vb fsv zs d name w W g f := by
  cases k with
  | old A B e hn hw =>
    subst hw
    have hs := h.srt
    rw [e] at hs
    have hfo : fileOf d.fs name = some f := by
      rw [← h2, e, ← hn]
      exact fileOf_split hs
    refine ⟨DMid.start h, h.fl (g, f) (by rw [e]; simp), hn, by unfold csOf; rw [hfo], .inl ⟨A, B, e, hfo⟩⟩
  | new hne hg hf hfb hat hb =>
    have hex : ¬ ∃ z ∈ zs, z.2.name = name := fun ⟨z, hz, e⟩ => hne z hz e
    have hfo : fileOf d.fs name = none := by rw [← h2]; exact fileOf_none hex
    have hh : ∀ k, g.has k → w.heap.size ≤ k := fun k hk => by
      rw [hg] at hk
      rcases hk with x | x | x
      · have x : k = g.fb := x
        omega
      · simp [Value.ownBlock] at x
      · cases x
    subst hf
    refine ⟨(DMid.start h).below hb, hat, rfl, by unfold csOf; rw [hfo], .inr ⟨rfl, hex, hfo, hh, fun k hk hd => ?_⟩⟩
    have := h.lts k hd
    have := hh k hk
    omega
theorem WGot.below {db vb : Nat} {fsv : Value} {zs : Zs} {d : Dk} {name : Bt} {w W W' : World} {g : Fg} {f : Fl} (h : WGot db vb fsv zs d name w W g f) (b : Below W.heap.size W W') : WGot db vb fsv zs d name w W' g f := ⟨h.mid.below b, h.fl.below b, h.nam, h.cs, h.old⟩
/-- Behind keep: the file is of the disk. -/
def WIn (db vb : Nat) (own : Nat → Prop) (d : Dk) (name : Bt) (fuse : Int) (w W : World) (g : Fg) (f : Fl) : Prop := ∃ fsv' A B, DMid own db vb fsv' (A ++ (g, f) :: B) d.most fuse d.off w W ∧ f.name = name ∧ f.cs = csOf d.fs name ∧ usedN A + f.cs.length + usedN B = usedD d ∧ ∀ g' at_ x, (A ++ (g', ⟨name, wrC f.cs at_ x⟩) :: B).map Prod.snd = putF d.fs name at_ x
theorem WIn.drew {db vb : Nat} {own : Nat → Prop} {d : Dk} {name : Bt} {fuse : Int} {w W : World} {g : Fg} {f : Fl} (h : WIn db vb own d name fuse w W g f) : WIn db vb own d name fuse w W.drew g f := by
  obtain ⟨fsv', A, B, M, r⟩ := h
  exact ⟨fsv', A, B, M.below ⟨rfl, rfl, rfl, Nat.le_refl _, fun _ _ => rfl⟩, r⟩
theorem usedN_app (A B : Zs) : usedN (A ++ B) = usedN A + usedN B := by unfold usedN; rw [List.map_append, List.sum_append]
theorem usedN_cons (z : Fg × Fl) (B : Zs) : usedN (z :: B) = z.2.cs.length + usedN B := rfl
theorem usedD_of {zs : Zs} {d : Dk} (h : zs.map Prod.snd = d.fs) : usedN zs = usedD d := by unfold usedN usedD; rw [← h, List.map_map]; rfl
/-- keep, in Write. -/
theorem keep15_any {db vb : Nat} {fsv : Value} {zs : Zs} {d : Dk} {name : Bt} {w W W' : World} {g : Fg} {f : Fl} {fuse : Int} (h : WGot db vb fsv zs d name w W g f) (h2 : zs.map Prod.snd = d.fs) (hm : DMid (DOwn db vb fsv zs) db vb fsv zs d.most fuse d.off w W') (hk : Kt (fun i => i = vb) W W') (hfull : f.cs.length = 0 → d.fs.length < 256) (hI : InsOk ∨ ∀ f ∈ d.fs, f.name = name) :
    Calls Tryz.prog 79 #[.pointer (some ⟨vb, 0, none⟩), .pointer (some ⟨g.fb, 0, none⟩)] W' fun e w' => e = .returned (.tuple #[]) ∧ Hid (WIn db vb (DOwn db vb fsv zs) d name fuse w w' g f) := by
  have hl : zs.length = d.fs.length := by rw [← h2, List.length_map]
  rcases h.old with ⟨A, B, e, hfo⟩ | ⟨hcs, hex, hfo, hg, hd⟩
  · have hm' := hm
    have hs := hm.at_.srt
    rw [e] at hm' hs
    refine (keep_old hm').mono ?_
    rintro e' w' ⟨rfl, rfl⟩
    refine ⟨rfl, hidb ⟨fsv, A, B, ?_, h.nam, h.cs, ?_, fun g' at_ x => ?_⟩⟩
    · rw [e]
      exact hm'
    · rw [← usedD_of h2, e, usedN_app, usedN_cons]
      show usedN A + f.cs.length + usedN B = usedN A + (f.cs.length + usedN B)
      omega
    · unfold putF
      rw [hfo, ← h2, e, ← h.nam]
      exact modF_split hs fun cs => wrC cs at_ x
  · have hf' : FlAt W' g f := h.fl.kt hk fun i hi e => hd i hi (.inr (.inl e))
    refine (keep_new hm hf' hg hd hcs (by rw [h.nam]; exact hex) (by rw [hl]; exact hfull (by rw [hcs]; rfl)) ?_).mono ?_
    · rcases hI with x | x
      · exact .inl x
      · refine .inr (List.eq_nil_iff_forall_not_mem.2 fun z hz => hex ⟨z, hz, x z.2 ?_⟩)
        rw [← h2]
        exact List.mem_map_of_mem hz
    · rintro e' w' ⟨rfl, H⟩
      obtain ⟨fsv', A, B, e, e1, e2, M⟩ := H.out
      refine ⟨rfl, hidb ⟨fsv', A, B, M, h.nam, h.cs, ?_, fun g' at_ x => ?_⟩⟩
      · rw [← usedD_of h2, e, usedN_app, hcs]
        simp
      · unfold putF
        rw [hfo, ← h2, e, hcs]
        rw [h.nam] at e1 e2
        exact insF_split (f := ⟨name, wrC [] at_ x⟩) e1 e2
/-- The file's write, in Write. -/
theorem dwrite_end {db vb : Nat} {fsv : Value} {zs : Zs} {K : Nat → Prop} {d : Dk} {name : Bt} {w W : World} {g : Fg} {f : Fl} {fuse : Int} (h : WIn db vb (DOwn db vb fsv zs) d name fuse w W g f) (at_ : Nat) (x : Sec) (hat : at_ ≤ f.cs.length) (hus : at_ = f.cs.length → usedD d < 65536) (h3 : ∀ k, DOwn db vb fsv zs k → ¬ K k) (h4 : ∀ k, K k → k < w.heap.size) :
    Calls Tryz.prog 80 #[.pointer (some ⟨g.fb, 1, none⟩), .int .i64 at_, x.v] W fun e w' => e = .returned (.tuple #[]) ∧ Hid (DkEnd K db ⟨d.most, putF d.fs name at_ x, fuse, d.off⟩ w w') := by
  obtain ⟨fsv', A, B, M, e1, e2, e3, e4⟩ := h
  have hF := M.at_.fl (g, f) (by simp)
  have hus2 : usedD d ≤ 65536 := by
    have := M.at_.us
    have : usedN (A ++ (g, f) :: B) ≤ 65536 := this
    rw [usedN_app, usedN_cons] at this
    simp only at this
    omega
  have hl : at_ < 65536 := by
    have := hF.len
    by_cases e : at_ = f.cs.length
    · have := hus e; omega
    · simp only at this; omega
  refine (write15_any W g f at_ x hF hat hl).mono ?_
  rintro e w' ⟨rfl, H⟩
  refine ⟨rfl, hidb ?_⟩
  obtain ⟨g', _, M2⟩ := M.upd H.out rfl (by
    show usedN A + (wrC f.cs at_ x).length + usedN B ≤ 65536
    rw [len_wrC]
    split
    · omega
    · have := hus (by omega); omega)
  have := M2.ends h3 h4
  rw [e1, e4] at this
  exact this
theorem fullB_eq {zs : Zs} {d : Dk} (h : zs.map Prod.snd = d.fs) (n at_ : Nat) : fullB zs d.most n at_ = fullD d n at_ := by
  unfold fullB fullD
  rw [usedD_of h, show zs.length = d.fs.length by rw [← h, List.length_map]]
set_option maxRecDepth 100000 in
set_option maxHeartbeats 1000000 in
theorem dwrite_any {K : Nat → Prop} {db : Nat} {d : Dk} {w : World} (h : DkAt K db d w) (name : Bt) (at_ : Int) (b : Bt) (hl : name.length ≤ 281474976710656) (hbl : b.length ≤ 9223372036854775807) (hat : -9223372036854775808 ≤ at_ ∧ at_ ≤ 9223372036854775807) (hI : InsOk ∨ ∀ f ∈ d.fs, f.name = name) :
    Calls Tryz.prog 55 #[.pointer (some ⟨db, 0, none⟩), sv name, .int .i64 at_, sv b] w fun e w' => e = .returned (.int .i64 (writeE d name at_ b)) ∧ Hid (DkEnd K db (writeD d name at_ b) w w') := by
  obtain ⟨vb, fsv, zs, h1, h2, h3, h4⟩ := h
  have cd := h1.cd
  have HR := hidb (ready15_any h1)
  have HS : Hid (DkEnd K db d w w) := hidb ⟨⟨vb, fsv, zs, h1, h2, h3, h4⟩, Kt.refl _ _⟩
  cases ho : d.off with
  | true =>
    rw [ho] at HR
    have HE : Hid (writeE d name at_ b = 9 ∧ writeD d name at_ b = d) := hidb (by unfold writeE writeD; rw [ho]; exact ⟨rfl, rfl⟩)
    simp only [if_true] at HR
    clear h1 h2 h3 h4
    go_enter Tryz.func55, Tryz.ntmps55
    go_wp2_with (first
      | (go_at_call 56; refine HR.out.mono ?_; clear HR; rintro e w1 ⟨rfl, rfl⟩)
      | fail)
    go_ret
    rw [HE.out.1, HE.out.2]
    exact ⟨rfl, HS⟩
  | false =>
    rw [ho] at HR
    simp only [Bool.false_eq_true, if_false] at HR
    have HN := hidb (isName_any name w hl)
    by_cases hnb : nameB name = false ∨ 64 < b.length
    · have HE : Hid (writeE d name at_ b = 1 ∧ writeD d name at_ b = d) := hidb (by unfold writeE writeD; rw [ho, if_neg (by simp), if_pos hnb, if_neg (by simp), if_pos hnb]; exact ⟨rfl, rfl⟩)
      clear h1 h2 h3 h4
      cases hnm : nameB name with
      | false =>
        rw [hnm] at HN
        clear hnb
        go_enter Tryz.func55, Tryz.ntmps55
        go_wp2_with (first
          | (go_at_call 56; refine HR.out.mono ?_; clear HR; rintro e w1 ⟨rfl, rfl⟩)
          | (go_at_call 76; refine HN.out.mono ?_; clear HN; rintro e w1 ⟨rfl, rfl⟩)
          | fail)
        go_ret
        rw [HE.out.1, HE.out.2]
        exact ⟨rfl, HS⟩
      | true =>
        rw [hnm] at HN
        have hb64 : 64 < b.length := by rcases hnb with x | x; rw [hnm] at x; cases x; exact x
        clear hnb
        have hd : decide ((64 : Int) < (b.length : Int)) = true := by simp; omega
        go_enter Tryz.func55, Tryz.ntmps55
        go_wp2_with (first
          | (go_at_call 56; refine HR.out.mono ?_; clear HR; rintro e w1 ⟨rfl, rfl⟩)
          | (go_at_call 76; refine HN.out.mono ?_; clear HN; rintro e w1 ⟨rfl, rfl⟩)
          | fail)
        go_ret
        rw [HE.out.1, HE.out.2]
        exact ⟨rfl, HS⟩
    · have hnm : nameB name = true := by cases e : nameB name with | true => rfl | false => exact absurd (.inl e) hnb
      have hb64 : b.length ≤ 64 := by
        rcases Nat.lt_or_ge 64 b.length with x | x
        · exact absurd (.inr x) hnb
        · exact x
      rw [hnm] at HN
      obtain ⟨n, hn⟩ : ∃ n, n = (csOf d.fs name).length := ⟨_, rfl⟩
      have HG : Hid (Calls Tryz.prog 77 #[.pointer (some ⟨vb, 0, none⟩), sv name] w fun e w' => ∃ q, e = .returned (.pointer (some ⟨q, 0, none⟩)) ∧ w'.cell? ⟨db, 0, none⟩ = some (.pointer (some ⟨vb, 0, none⟩)) ∧ Hid (∃ g f, g.fb = q ∧ WGot db vb fsv zs d name w w' g f)) := hidb ((get15_any h1 name hl).mono fun e w' ⟨q, e1, H⟩ => by
        obtain ⟨g, f, e2, k⟩ := H.out
        have := k.w h1 h2
        exact ⟨q, e1, this.mid.at_.cd, hidb ⟨g, f, e2, this⟩⟩)
      have HC : Hid (∀ W g f, WGot db vb fsv zs d name w W g f → Calls Tryz.prog 47 #[.pointer (some ⟨g.fb, 1, none⟩)] W fun e w' => e = .returned (.int .i64 n) ∧ w' = W) := hidb fun W g f hW => by
        have := count15_any W g f hW.fl
        rw [hW.cs, ← hn] at this
        exact this
      have HSt : Hid (∀ W g f, WGot db vb fsv zs d name w W g f → DkEnd K db d w W) := hidb fun W g f hW => by
        have := hW.mid.ends h3 h4
        rw [h2] at this
        exact this
      have hnl : n ≤ 65536 := by
        rw [hn]
        unfold csOf
        cases hfo : fileOf d.fs name with
        | none => simp
        | some f =>
          have : f ∈ zs.map Prod.snd := by rw [h2]; exact List.mem_of_find?_eq_some hfo
          obtain ⟨z, hz, rfl⟩ := List.mem_map.1 this
          exact (h1.fl z hz).len
      by_cases hrg : at_ < 0 ∨ (n : Int) < at_
      · have HE : Hid (writeE d name at_ b = 1 ∧ writeD d name at_ b = d) := hidb (by unfold writeE writeD; rw [← hn, ho, if_neg (by simp), if_neg hnb, if_pos hrg, if_neg (by simp), if_neg hnb, if_pos hrg]; exact ⟨rfl, rfl⟩)
        clear h1 h2 h3 h4 hn
        by_cases hneg : at_ < 0
        · go_enter Tryz.func55, Tryz.ntmps55
          go_wp2_with (first
            | (go_at_call 56; refine HR.out.mono ?_; clear HR; rintro e w1 ⟨rfl, rfl⟩)
            | (go_at_call 76; refine HN.out.mono ?_; clear HN; rintro e w1 ⟨rfl, rfl⟩)
            | (go_at_call 77; refine HG.out.mono ?_; clear HG; rintro e w2 ⟨q, rfl, cd2, HW⟩)
            | fail)
          go_ret
          obtain ⟨g, f, rfl, W⟩ := HW.out
          rw [HE.out.1, HE.out.2]
          exact ⟨rfl, hidb (HSt.out _ _ _ W)⟩
        · have hgt : (n : Int) < at_ := by omega
          go_enter Tryz.func55, Tryz.ntmps55
          go_wp2_with (first
            | (go_at_call 56; refine HR.out.mono ?_; clear HR; rintro e w1 ⟨rfl, rfl⟩)
            | (go_at_call 76; refine HN.out.mono ?_; clear HN; rintro e w1 ⟨rfl, rfl⟩)
            | (go_at_call 77; refine HG.out.mono ?_; clear HG; rintro e w2 ⟨q, rfl, cd2, HW⟩; obtain ⟨g, f, rfl, W⟩ := HW.out; replace HSt := hidb (HSt.out _ _ _ W); replace HC := hidb (HC.out _ _ _ W); clear W HW)
            | (go_at_call 47; refine HC.out.mono ?_; clear HC; rintro e w3 ⟨rfl, rfl⟩)
            | fail)
          go_ret
          rw [HE.out.1, HE.out.2]
          exact ⟨rfl, HSt⟩
      · obtain ⟨a, rfl⟩ : ∃ a : Nat, at_ = a := ⟨at_.toNat, by omega⟩
        have han : a ≤ n := by omega
        have HFu : Hid (∀ W g f, WGot db vb fsv zs d name w W g f → Calls Tryz.prog 78 #[.pointer (some ⟨vb, 0, none⟩), .pointer (some ⟨g.fb, 0, none⟩), .int .i64 a] W fun e w' => e = .returned (.bool (fullD d n a)) ∧ w'.cell? ⟨db, 0, none⟩ = some (.pointer (some ⟨vb, 0, none⟩)) ∧ Hid (WGot db vb fsv zs d name w w' g f)) := hidb fun W g f hW => by
          have := isFull15_any hW.mid.at_ g f hW.fl a
          rw [hW.cs, ← hn, fullB_eq h2] at this
          refine this.mono fun e w' ⟨e1, m, e2⟩ => ?_
          subst e2
          have := hW.below (W' := W.drewN m) ⟨rfl, rfl, rfl, Nat.le_refl _, fun _ _ => rfl⟩
          exact ⟨e1, this.mid.at_.cd, hidb this⟩
        have htn : (a : Int).toNat = a := by simp
        cases hfl : fullD d n a with
        | true =>
          rw [hfl] at HFu
          have HE : Hid (writeE d name a b = 7 ∧ writeD d name a b = d) := hidb (by unfold writeE writeD; rw [← hn, htn, ho, if_neg (by simp), if_neg hnb, if_neg hrg, if_pos hfl, if_neg (by simp), if_neg hnb, if_neg hrg, if_pos hfl]; exact ⟨rfl, rfl⟩)
          clear h1 h2 h3 h4 hn hrg hnb
          go_enter Tryz.func55, Tryz.ntmps55
          go_wp2_with (first
            | (go_at_call 56; refine HR.out.mono ?_; clear HR; rintro e w1 ⟨rfl, rfl⟩)
            | (go_at_call 76; refine HN.out.mono ?_; clear HN; rintro e w1 ⟨rfl, rfl⟩)
            | (go_at_call 77; refine HG.out.mono ?_; clear HG; rintro e w2 ⟨q, rfl, cd2, HW⟩; obtain ⟨g, f, rfl, W⟩ := HW.out; replace HFu := hidb (HFu.out _ _ _ W); replace HC := hidb (HC.out _ _ _ W); clear W HW)
            | (go_at_call 47; refine HC.out.mono ?_; clear HC; rintro e w3 ⟨rfl, rfl⟩)
            | (go_at_call 78; refine HFu.out.mono ?_; clear HFu; rintro e w4 ⟨rfl, cd3, HW⟩)
            | fail)
          go_ret
          rw [HE.out.1, HE.out.2]
          exact ⟨rfl, hidb (HSt.out _ _ _ HW.out)⟩
        | false =>
          rw [hfl] at HFu
          have hfl256 : n = 0 → d.fs.length < 256 := fun e => by
            unfold fullD at hfl
            simp only [Bool.or_eq_false_iff, Bool.and_eq_false_iff, decide_eq_false_iff_not] at hfl
            omega
          have hflu : a = n → usedD d < 65536 := fun e => by
            have := h1.mo
            unfold fullD at hfl
            simp only [Bool.or_eq_false_iff, Bool.and_eq_false_iff, decide_eq_false_iff_not] at hfl
            omega
          by_cases hf0 : d.fuse = 0
          · have HB : Hid (∀ W g f, WGot db vb fsv zs d name w W g f → Calls Tryz.prog 59 #[.pointer (some ⟨vb, 0, none⟩)] W fun e w' => e = .returned (.int .i64 9) ∧ Hid (writeE d name a b = 9 ∧ DkEnd K db (writeD d name a b) w w')) := hidb fun W g f hW => by
              have := burn15_any hW.mid
              rw [if_pos hf0, if_pos hf0] at this
              refine this.mono fun e w' ⟨e1, H⟩ => ⟨e1, hidb ?_⟩
              unfold writeE writeD
              rw [← hn, htn, ho, if_neg (by simp), if_neg hnb, if_neg hrg, if_neg (by simp [hfl]), if_pos hf0, if_neg (by simp), if_neg hnb, if_neg hrg, if_neg (by simp [hfl]), if_pos hf0]
              have := H.out.ends h3 h4
              rw [h2, show burnF d.fuse = d.fuse by rw [hf0]; rfl] at this
              exact ⟨rfl, this⟩
            clear h1 h2 h3 h4 hn hrg hnb hfl hfl256 hflu
            go_enter Tryz.func55, Tryz.ntmps55
            go_wp2_with (first
              | (go_at_call 56; refine HR.out.mono ?_; clear HR; rintro e w1 ⟨rfl, rfl⟩)
              | (go_at_call 76; refine HN.out.mono ?_; clear HN; rintro e w1 ⟨rfl, rfl⟩)
              | (go_at_call 77; refine HG.out.mono ?_; clear HG; rintro e w2 ⟨q, rfl, cd2, HW⟩; obtain ⟨g, f, rfl, W⟩ := HW.out; replace HFu := hidb (HFu.out _ _ _ W); replace HC := hidb (HC.out _ _ _ W); clear W HW)
              | (go_at_call 47; refine HC.out.mono ?_; clear HC; rintro e w3 ⟨rfl, rfl⟩)
              | (go_at_call 78; refine HFu.out.mono ?_; clear HFu; rintro e w4 ⟨rfl, cd3, HW⟩; replace HB := hidb (HB.out _ _ _ HW.out))
              | (go_at_call 59; refine HB.out.mono ?_; clear HB; rintro e w5 ⟨rfl, HE⟩)
              | fail)
            go_ret
            rw [HE.out.1]
            exact ⟨rfl, hidb HE.out.2⟩
          · have HWr : Hid (∀ W g f, WIn db vb (DOwn db vb fsv zs) d name (burnF d.fuse) w W g f → Calls Tryz.prog 80 #[.pointer (some ⟨g.fb, 1, none⟩), .int .i64 a, (fillS b).v] W fun e w' => e = .returned (.tuple #[]) ∧ Hid (writeE d name a b = 0 ∧ DkEnd K db (writeD d name a b) w w')) := hidb fun W g f hW => by
              have hcs : f.cs.length = n := by obtain ⟨_, _, _, _, _, e, _⟩ := hW; rw [e, ← hn]
              refine (dwrite_end hW a (fillS b) (by rw [hcs]; exact han) (by rw [hcs]; exact hflu) h3 h4).mono fun e w' ⟨e1, H⟩ => ⟨e1, hidb ?_⟩
              unfold writeE writeD
              rw [← hn, htn, ho, if_neg (by simp), if_neg hnb, if_neg hrg, if_neg (by simp [hfl]), if_neg hf0, if_neg (by simp), if_neg hnb, if_neg hrg, if_neg (by simp [hfl]), if_neg hf0]
              have := H.out
              rw [ho] at this
              exact ⟨rfl, this⟩
            have HFi : Hid (∀ W g f, WIn db vb (DOwn db vb fsv zs) d name (burnF d.fuse) w W g f → Calls Tryz.prog 81 #[sv b] W fun e w' => e = .returned (fillS b).v ∧ Hid (WIn db vb (DOwn db vb fsv zs) d name (burnF d.fuse) w w' g f)) := hidb fun W g f hW => by
              refine (filled_any b W hb64).mono fun e w' ⟨e1, hb⟩ => ⟨e1, hidb ?_⟩
              obtain ⟨fsv', A, B, M, r⟩ := hW
              exact ⟨fsv', A, B, M.below hb, r⟩
            have HK : Hid (∀ W g f, WGot db vb fsv zs d name w W g f → Calls Tryz.prog 59 #[.pointer (some ⟨vb, 0, none⟩)] W fun e w' => e = .returned (.int .i64 0) ∧ w'.cell? ⟨db, 0, none⟩ = some (.pointer (some ⟨vb, 0, none⟩)) ∧ Hid (Calls Tryz.prog 79 #[.pointer (some ⟨vb, 0, none⟩), .pointer (some ⟨g.fb, 0, none⟩)] w' fun e w'' => e = .returned (.tuple #[]) ∧ Hid (WIn db vb (DOwn db vb fsv zs) d name (burnF d.fuse) w w'' g f))) := hidb fun W g f hW => by
              have := burn15_both hW.mid
              rw [if_neg hf0, if_neg hf0] at this
              refine this.mono fun e w' ⟨e1, H⟩ => ⟨e1, H.out.1.at_.cd, hidb ?_⟩
              exact keep15_any hW h2 H.out.1 H.out.2 (by rw [hW.cs, ← hn]; exact hfl256) hI
            clear h1 h2 h3 h4 hn hrg hnb hfl hfl256 hflu hI
            have HV : Hid ((fillS b).v = .agg #[sv (padB b), .bool false]) := hidb rfl
            rw [HV.out] at HWr HFi
            go_enter Tryz.func55, Tryz.ntmps55
            go_wp2_with (first
              | (go_at_call 56; refine HR.out.mono ?_; clear HR; rintro e w1 ⟨rfl, rfl⟩)
              | (go_at_call 76; refine HN.out.mono ?_; clear HN; rintro e w1 ⟨rfl, rfl⟩)
              | (go_at_call 77; refine HG.out.mono ?_; clear HG; rintro e w2 ⟨q, rfl, cd2, HW⟩; obtain ⟨g, f, rfl, W⟩ := HW.out; replace HFu := hidb (HFu.out _ _ _ W); replace HC := hidb (HC.out _ _ _ W); clear W HW)
              | (go_at_call 47; refine HC.out.mono ?_; clear HC; rintro e w3 ⟨rfl, rfl⟩)
              | (go_at_call 78; refine HFu.out.mono ?_; clear HFu; rintro e w4 ⟨rfl, cd3, HW⟩; replace HK := hidb (HK.out _ _ _ HW.out))
              | (go_at_call 59; refine HK.out.mono ?_; clear HK; rintro e w5 ⟨rfl, cd4, HK2⟩)
              | (go_at_call 79; refine HK2.out.mono ?_; clear HK2; rintro e w6 ⟨rfl, HI6⟩; replace HFi := hidb (HFi.out w6.drew _ _ (WIn.drew HI6.out)))
              | (go_at_call 81; refine HFi.out.mono ?_; clear HFi; rintro e w7 ⟨rfl, HI7⟩; replace HWr := hidb (HWr.out _ _ _ HI7.out))
              | (go_at_call 80; refine HWr.out.mono ?_; clear HWr; rintro e w8 ⟨rfl, HE⟩)
              | fail)
            go_region_with (first
              | (go_at_call 81; refine HFi.out.mono ?_; clear HFi; rintro e w7 ⟨rfl, HI7⟩; replace HWr := hidb (HWr.out _ _ _ HI7.out))
              | (go_at_call 80; refine HWr.out.mono ?_; clear HWr; rintro e w8 ⟨rfl, HE⟩)
              | fail)
            all_goals go_wp2_with fail
            all_goals go_ret
            all_goals rw [HE.out.1]
            all_goals exact ⟨rfl, hidb HE.out.2⟩
end Go.Proofs.YthmjejmignangaaGreatDoor
