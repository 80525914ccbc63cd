/- Layer 15, plain: what was synced, and not written since, is there behind any crash (P1504); a second crash changes nothing more (P1503). -/
import Derived.Test.YtghhhlbpolhkhaaEV
import Derived.Test.YtghhhlbpolhkhaaEO
namespace Go.Proofs.Ytghhhlbpolhkhaa
open Go.RowKit
/-- A sector that was not written since the sync stays. -/
theorem crC_keep (cs : List Cl) (f : List Int) : ∀ i (h : i < cs.length), cs[i].n = none → (crC cs f).1[i]? = some cs[i].s := by
  induction cs generalizing f with
  | nil => intro i h; simp at h
  | cons c cs ih =>
    intro i h hn
    rw [crC]
    cases i with
    | zero =>
      simp only [List.getElem_cons_zero] at hn
      rw [hn]
      rfl
    | succ i =>
      simp only [List.getElem_cons_succ] at hn
      have hi : i < cs.length := by simpa using h
      cases e : c.n with
      | none => simpa using ih f i hi hn
      | some x =>
        cases f with
        | nil => simpa using ih [] i hi hn
        | cons a f => simpa using ih f i hi hn
theorem find_map {α : Type} (p : α → Bool) (g : α → α) (h : ∀ x, p (g x) = p x) : ∀ l : List α, (l.map g).find? p = (l.find? p).map g
  | [] => rfl
  | x :: l => by
    rw [List.map_cons, List.find?_cons, List.find?_cons, h x]
    cases p x with
    | true => rfl
    | false => exact find_map p g h l
theorem fileOf_mod (t : List Cl → List Cl) (nm name : Bt) (fs : List Fl) : fileOf (modF t nm fs) name = (fileOf fs name).map fun f => if f.name = nm then ⟨f.name, t f.cs⟩ else f := by
  unfold fileOf modF
  exact find_map _ _ (fun x => by split <;> rfl) fs
theorem find_filter {α : Type} (p q : α → Bool) (c : Bool) (h : ∀ x, q x = true → p x = c) : ∀ l : List α, (l.filter p).find? q = if c then l.find? q else none
  | [] => by cases c <;> rfl
  | x :: l => by
    have ih := find_filter p q c h l
    rw [List.filter_cons]
    cases hq : q x with
    | true =>
      rw [h x hq, List.find?_cons, hq]
      cases c with
      | true => simp [hq]
      | false => simpa using ih
    | false =>
      rw [List.find?_cons, hq]
      cases p x with
      | true => rw [if_pos rfl, List.find?_cons, hq]; exact ih
      | false => simpa using ih
theorem fileOf_ins (fs : List Fl) (f : Fl) (name : Bt) (hn : f.name ≠ name) : fileOf (insF fs f) name = fileOf fs name := by
  unfold fileOf insF
  rw [List.find?_append, List.find?_cons]
  have e0 : decide (f.name = name) = false := by simpa using hn
  rw [e0, find_filter _ _ (decide (Lib.compareBytes name f.name < 0)) (fun x hx => by simp at hx; rw [hx]),
    find_filter _ _ (!decide (Lib.compareBytes name f.name < 0)) (fun x hx => by simp at hx; rw [hx])]
  cases decide (Lib.compareBytes name f.name < 0) <;> simp
theorem fileOf_name {fs : List Fl} {name : Bt} {f : Fl} (h : fileOf fs name = some f) : f.name = name := by
  have := List.find?_some h
  simpa using this
/-- What is wanted of the file: want is sure, and but for what T names nothing was written since. -/
structure SureP (nm : Bt) (want : List Bt) (T : Int → Bool) (d : Dk) (cs : List Cl) : Prop where
  file : fileOf d.fs nm = some ⟨nm, cs⟩
  len : want.length ≤ cs.length
  s : ∀ i (h : i < want.length) (h' : i < cs.length), cs[i].s = fillS want[i]
  n : ∀ i (_h : i < want.length) (h' : i < cs.length), T i = false → cs[i].n = none
  wr : ∀ c ∈ cs, ∀ x, c.n = some x → x ≠ noSec
theorem SureP.same {nm : Bt} {want : List Bt} {T : Int → Bool} {d d' : Dk} {cs : List Cl} (h : SureP nm want T d cs) (e : fileOf d'.fs nm = fileOf d.fs nm) : SureP nm want T d' cs := ⟨e.trans h.file, h.len, h.s, h.n, h.wr⟩
theorem SureP.more {nm : Bt} {want : List Bt} {T T' : Int → Bool} {d : Dk} {cs : List Cl} (h : SureP nm want T d cs) (e : ∀ k, T' k = false → T k = false) : SureP nm want T' d cs := ⟨h.file, h.len, h.s, fun i a b c => h.n i a b (e _ c), h.wr⟩
/-- Sync of another file, Cut. -/
theorem SureP.sync {nm name : Bt} {want : List Bt} {T : Int → Bool} {d : Dk} {cs : List Cl} (h : SureP nm want T d cs) (hn : name ≠ nm) : SureP nm want T (syncD d name) cs := by
  unfold syncD
  split
  · exact h
  · split
    · exact h.same rfl
    · refine h.same ?_
      show fileOf (modF syncC name d.fs) nm = _
      rw [fileOf_mod]
      cases e : fileOf d.fs nm with
      | none => rfl
      | some f => simp [fileOf_name e, Ne.symm hn]
/-- Write of another file. -/
theorem SureP.other {nm name : Bt} {want : List Bt} {T : Int → Bool} {d : Dk} {cs : List Cl} (h : SureP nm want T d cs) (hn : name ≠ nm) (at_ : Int) (b : Bt) : SureP nm want T (writeD d name at_ b) cs := by
  unfold writeD
  split
  · exact h
  split
  · exact h
  split
  · exact h
  split
  · exact h
  split
  · exact h.same rfl
  refine h.same ?_
  show fileOf (putF d.fs name at_.toNat (fillS b)) nm = _
  unfold putF
  cases e0 : fileOf d.fs name with
  | none => exact fileOf_ins _ _ _ hn
  | some f0 =>
    simp only
    rw [fileOf_mod]
    cases e : fileOf d.fs nm with
    | none => rfl
    | some f => simp [fileOf_name e, Ne.symm hn]
/-- Write of the file itself. -/
theorem SureP.write {nm : Bt} {want : List Bt} {T : Int → Bool} {d : Dk} {cs : List Cl} (h : SureP nm want T d cs) (at_ : Int) (b : Bt) : ∃ cs', SureP nm want (fun k => k == at_ || T k) (writeD d nm at_ b) cs' := by
  have hm := h.more (T' := fun k => k == at_ || T k) fun k hk => by simp at hk; exact hk.2
  unfold writeD
  split
  · exact ⟨_, hm⟩
  split
  · exact ⟨_, hm⟩
  split
  · exact ⟨_, hm⟩
  split
  · exact ⟨_, hm⟩
  split
  · exact ⟨_, hm.same rfl⟩
  rename_i hnb hrg _ _
  have hb : b.length ≤ 64 := by
    rcases Nat.lt_or_ge 64 b.length with x | x
    · exact absurd (.inr x) hnb
    · exact x
  have hx := fill_ne hb
  have hc : csOf d.fs nm = cs := by unfold csOf; rw [h.file]
  have ha0 : 0 ≤ at_ := by
    rcases Int.lt_or_le at_ 0 with x | x
    · exact absurd (.inl x) hrg
    · exact x
  obtain ⟨a, rfl⟩ := Int.eq_ofNat_of_zero_le ha0
  have hfile : fileOf (putF d.fs nm ((a : Int)).toNat (fillS b)) nm = some ⟨nm, wrC cs a (fillS b)⟩ := by
    unfold putF
    rw [h.file]
    simp only
    rw [fileOf_mod, h.file]
    simp
  refine ⟨wrC cs a (fillS b), ⟨hfile, ?_, ?_, ?_, ?_⟩⟩
  · unfold wrC
    split
    · simpa using h.len
    · simp; have := h.len; omega
  · intro i hi hi'
    have hic : i < cs.length := Nat.lt_of_lt_of_le hi h.len
    unfold wrC
    by_cases e : a < cs.length
    · simp only [e, dif_pos]
      rw [List.getElem_set]
      split
      · rename_i e2; subst e2; exact h.s a hi e
      · exact h.s i hi hic
    · simp only [e, dif_neg, not_false_eq_true]
      rw [List.getElem_append_left hic]
      exact h.s i hi hic
  · intro i hi hi' ht
    have hic : i < cs.length := Nat.lt_of_lt_of_le hi h.len
    simp at ht
    unfold wrC
    by_cases e : a < cs.length
    · simp only [e, dif_pos]
      rw [List.getElem_set_ne (by omega)]
      exact h.n i hi hic ht.2
    · simp only [e, dif_neg, not_false_eq_true]
      rw [List.getElem_append_left hic]
      exact h.n i hi hic ht.2
  · intro c hc2 x hxn
    unfold wrC at hc2
    by_cases e : a < cs.length
    · simp only [e, dif_pos] at hc2
      rcases List.mem_or_eq_of_mem_set hc2 with y | rfl
      · exact h.wr c y x hxn
      · simp at hxn; rw [← hxn]; exact hx
    · simp only [e, dif_neg, not_false_eq_true] at hc2
      rcases List.mem_append.1 hc2 with y | y
      · exact h.wr c y x hxn
      · rw [List.mem_singleton] at y; subst y; simp at hxn; rw [← hxn]; exact hx
theorem crFs_file (fs : List Fl) (f : List Int) (nm : Bt) {cs : List Cl} (h : fileOf fs nm = some ⟨nm, cs⟩) : ∃ f', fileOf (crFs fs f) nm = some (crF ⟨nm, cs⟩ f').1 := by
  induction fs generalizing f with
  | nil => simp [fileOf] at h
  | cons x fs ih =>
    unfold fileOf at h ⊢
    rw [List.find?_cons] at h
    rw [crFs, List.find?_cons]
    have e : (crF x f).1.name = x.name := rfl
    rw [e]
    cases hx : decide (x.name = nm) with
    | true =>
      rw [hx] at h
      injection h with h
      subst h
      exact ⟨f, rfl⟩
    | false =>
      rw [hx] at h
      exact ih _ h
/-- Behind a crash. -/
theorem SureP.crash {nm : Bt} {want : List Bt} {T : Int → Bool} {d : Dk} {cs : List Cl} (h : SureP nm want T d cs) (hw : want ≠ []) (hwl : ∀ b ∈ want, b.length ≤ 64) (f : List Int) : readE (crD d f) nm = 0 ∧ want.length ≤ (readL (crD d f) nm).length ∧ ∀ i (hi : i < want.length), T i = false → (readL (crD d f) nm)[i]? = some (fillS want[i]) := by
  obtain ⟨f', hf⟩ := crFs_file d.fs f nm h.file
  have hl := crC_len cs f'
  have hwp : 0 < want.length := List.length_pos_iff.2 hw
  have hne : ∀ i (hi : i < (crC cs f').1.length), i < want.length → (crC cs f').1[i] ≠ noSec := fun i hi hin => by
    obtain ⟨y, e1, e2⟩ := crC_each cs f' i (by omega)
    rw [List.getElem?_eq_getElem hi] at e1
    injection e1 with e1
    rw [e1]
    rcases e2 with e2 | e2 | e2
    · rw [e2, h.s i hin (by omega)]; exact fill_ne (hwl _ (List.getElem_mem hin))
    · exact h.wr _ (List.getElem_mem (by omega)) y e2
    · rw [e2]; decide
  have hge := cutS_ge (crC cs f').1 want.length (by have := h.len; omega) hne
  have hlen : (trimS (crC cs f').1).length = (cutS (crC cs f').1).length := by unfold trimS; rw [List.length_map]
  have htn : trimS (crC cs f').1 ≠ [] := by
    intro e
    rw [e] at hlen
    simp at hlen
    omega
  have hfile : fileOf (crD d f).fs nm = some (crF ⟨nm, cs⟩ f').1 := by
    unfold crD
    simp only
    unfold fileOf at hf ⊢
    generalize crFs d.fs f = l at hf
    induction l with
    | nil => simp at hf
    | cons x l ih =>
      rw [List.find?_cons] at hf
      rw [List.filter_cons]
      cases hx : decide (x.name = nm) with
      | true =>
        rw [hx] at hf
        injection hf with hf
        subst hf
        have : decide ((crF ⟨nm, cs⟩ f').1.cs ≠ []) = true := by
          simp [crF, htn]
        rw [if_pos this, List.find?_cons, hx]
      | false =>
        rw [hx] at hf
        split
        · rw [List.find?_cons, hx]; exact ih hf
        · exact ih hf
  have hread : readL (crD d f) nm = trimS (crC cs f').1 := by
    unfold readL
    rw [hfile]
    have : (crD d f).off = false := rfl
    rw [this]
    simp only [Bool.false_eq_true, if_false]
    show (List.map (fun s => (⟨s, none⟩ : Cl)) (trimS (crC cs f').1)).map Cl.now = _
    rw [List.map_map]
    exact List.map_id _
  refine ⟨?_, by rw [hread, hlen]; exact hge, fun i hi ht => ?_⟩
  · unfold readE
    rw [hfile]
    rfl
  · rw [hread]
    unfold trimS
    have hic : i < cs.length := Nat.lt_of_lt_of_le hi h.len
    rw [List.getElem?_map, cutS_pre _ i (by omega), crC_keep cs f' i hic (h.n i hi hic ht), h.s i hi hic]
    simp [fill_ne (hwl _ (List.getElem_mem hi))]
/-- While the file is filled. -/
structure FillP (nm : Bt) (want : List Bt) (d : Dk) : Prop where
  one : OneF nm d
  most : d.most = 1000
  len : (oneC nm d).length = want.length
  n : ∀ j (h : j < (oneC nm d).length) (h' : j < want.length), (oneC nm d)[j].n = some (fillS want[j])
  w64 : ∀ b ∈ want, b.length ≤ 64
theorem FillP.start (nm : Bt) : FillP nm [] (newD 1000) := ⟨OneF.new _ _, rfl, rfl, fun j h h' => by simp at h', by simp⟩
theorem FillP.used {nm : Bt} {want : List Bt} {d : Dk} (h : FillP nm want d) : usedD d = want.length ∧ d.fs.length ≤ 1 ∧ csOf d.fs nm = oneC nm d := by
  refine ⟨?_, ?_, rfl⟩
  · rw [← h.len]
    unfold usedD
    rcases h.one.cs with ⟨e1, e2⟩ | ⟨e1, e2⟩
    · rw [e1, e2]; rfl
    · conv => lhs; rw [e2]
      simp
  · rcases h.one.cs with ⟨e1, e2⟩ | ⟨e1, e2⟩
    · rw [e2]; simp
    · rw [e2]; simp
theorem FillP.write {nm : Bt} {want : List Bt} {d : Dk} (h : FillP nm want d) (hn : nameB nm = true) (b : Bt) (hb : b.length ≤ 64) (hw : want.length < 50) : writeE d nm want.length b = 0 ∧ FillP nm (want ++ [b]) (writeD d nm want.length b) := by
  obtain ⟨hu, hfl, hcs⟩ := h.used
  have c1 : ¬ (nameB nm = false ∨ 64 < b.length) := by rw [hn]; simp; omega
  have c2 : ¬ ((want.length : Int) < 0 ∨ ((csOf d.fs nm).length : Int) < want.length) := by rw [hcs, h.len]; omega
  have c3 : fullD d (csOf d.fs nm).length ((want.length : Int)).toNat = false := by
    unfold fullD
    rw [hu, h.most]
    have e1 : decide ((1000 : Int) ≤ (want.length : Nat)) = false := by simp; omega
    have e2 : decide (256 ≤ d.fs.length) = false := by simp; omega
    rw [e1, e2]
    simp
  have hE : writeE d nm want.length b = 0 := by
    unfold writeE
    rw [h.one.off, if_neg (by simp), if_neg c1, if_neg c2, if_neg (by rw [c3]; simp), h.one.fu, if_neg (by decide)]
  have hD : writeD d nm want.length b = ⟨d.most, putF d.fs nm want.length (fillS b), -1, false⟩ := by
    unfold writeD
    rw [h.one.off, if_neg (by simp), if_neg c1, if_neg c2, if_neg (by rw [c3]; simp), h.one.fu, if_neg (by decide)]
    rfl
  have hcsn : oneC nm (writeD d nm want.length b) = oneC nm d ++ [⟨noSec, some (fillS b)⟩] := by
    rw [hD]
    show csOf (putF d.fs nm want.length (fillS b)) nm = _
    unfold putF
    rcases h.one.cs with ⟨e1, e2⟩ | ⟨e1, e2⟩
    · rw [e2, e1]
      have : fileOf ([] : List Fl) nm = none := rfl
      rw [this]
      simp [insF, csOf, fileOf, wrC]
    · have hf : fileOf d.fs nm = some ⟨nm, oneC nm d⟩ := by rw [e2]; simp [fileOf]
      rw [hf]
      simp only
      unfold csOf
      rw [fileOf_mod, hf]
      simp only [Option.map_some, if_true]
      unfold wrC
      rw [dif_neg (by rw [h.len]; omega)]
  refine ⟨hE, (h.one.write _ _).1, by rw [hD]; exact h.most, by rw [hcsn]; simp [h.len], fun j hj hj' => ?_, fun c hc => ?_⟩
  · have hjl : j < (oneC nm d ++ [(⟨noSec, some (fillS b)⟩ : Cl)]).length := by rw [← hcsn]; exact hj
    have : (oneC nm (writeD d nm want.length b))[j] = (oneC nm d ++ [(⟨noSec, some (fillS b)⟩ : Cl)])[j] := by congr 1
    rw [this]
    by_cases e : j < want.length
    · rw [List.getElem_append_left (by rw [h.len]; exact e), List.getElem_append_left e]
      exact h.n j (by rw [h.len]; exact e) e
    · have hje : j = want.length := by simp at hj'; omega
      subst hje
      rw [List.getElem_append_right (by rw [h.len]; omega), List.getElem_append_right (by omega)]
      simp
  · rcases List.mem_append.1 hc with x | x
    · exact h.w64 c x
    · rw [List.mem_singleton] at x; subst x; exact hb
/-- The sync. -/
theorem FillP.sync {nm : Bt} {want : List Bt} {d : Dk} (h : FillP nm want d) (hw : want ≠ []) : syncE d nm = 0 ∧ ∃ cs, SureP nm want (fun _ => false) (syncD d nm) cs := by
  have hne : oneC nm d ≠ [] := by
    intro e
    have := h.len
    rw [e] at this
    exact hw (List.eq_nil_of_length_eq_zero this.symm)
  have hfs : d.fs = [⟨nm, oneC nm d⟩] := by
    rcases h.one.cs with ⟨e1, _⟩ | ⟨_, e2⟩
    · exact absurd e1 hne
    · exact e2
  have hf : fileOf d.fs nm = some ⟨nm, oneC nm d⟩ := by rw [hfs]; simp [fileOf]
  refine ⟨?_, syncC (oneC nm d), ?_, ?_, ?_, ?_, ?_⟩
  · unfold syncE
    rw [h.one.off, if_neg (by simp), h.one.fu, if_neg (by decide), hf]
  · unfold syncD
    rw [h.one.off, if_neg (by simp), h.one.fu, if_neg (by decide)]
    show fileOf (modF syncC nm d.fs) nm = _
    rw [fileOf_mod, hf]
    simp
  · simp [syncC, h.len]
  · intro i hi hi'
    simp only [syncC, List.getElem_map, Cl.now]
    rw [h.n i (by rw [h.len]; exact hi) hi]
    rfl
  · intro i hi hi' _
    simp only [syncC, List.getElem_map]
  · intro c hc x hx
    obtain ⟨c0, _, rfl⟩ := List.mem_map.1 hc
    simp at hx
/-- A second crash changes nothing. -/
theorem cutS_full : ∀ l : List Sec, (∀ x ∈ l, x ≠ noSec) → cutS l = l
  | [], _ => rfl
  | x :: l, h => by
    unfold cutS
    rw [if_neg (fun e => h x (by simp) e.1), cutS_full l fun y hy => h y (by simp [hy])]
theorem trimS_full {l : List Sec} (h : ∀ x ∈ l, x ≠ noSec) : trimS l = l := by
  unfold trimS
  rw [cutS_full l h]
  conv => rhs; rw [← List.map_id l]
  exact List.map_congr_left fun x hx => by rw [if_neg (h x hx)]; rfl
theorem trimS_ne (l : List Sec) : ∀ x ∈ trimS l, x ≠ noSec := by
  intro x hx
  obtain ⟨y, _, rfl⟩ := List.mem_map.1 hx
  split
  · exact fill_ne (by simp)
  · assumption
theorem crC_mk (l : List Sec) (f : List Int) : crC (l.map fun s => ⟨s, none⟩) f = (l, f) := by
  induction l with
  | nil => rfl
  | cons x l ih =>
    rw [List.map_cons, crC]
    simp only
    rw [ih]
/-- A disk behind a crash. -/
def Crashed (d : Dk) : Prop := (∀ f ∈ d.fs, ∃ l : List Sec, l ≠ [] ∧ (∀ x ∈ l, x ≠ noSec) ∧ f.cs = l.map fun s => ⟨s, none⟩) ∧ d.fuse = -1 ∧ d.off = false
theorem crFs_mem : ∀ (fs : List Fl) (f : List Int) (g : Fl), g ∈ crFs fs f → ∃ l : List Sec, (∀ x ∈ l, x ≠ noSec) ∧ g.cs = l.map fun s => ⟨s, none⟩
  | [], _, g, h => by simp [crFs] at h
  | x :: fs, f, g, h => by
    rw [crFs] at h
    rcases List.mem_cons.1 h with rfl | h
    · exact ⟨_, trimS_ne _, rfl⟩
    · exact crFs_mem fs _ g h
theorem crashed (d : Dk) (f : List Int) : Crashed (crD d f) := by
  refine ⟨fun g hg => ?_, rfl, rfl⟩
  unfold crD at hg
  obtain ⟨h1, h2⟩ := List.mem_filter.1 hg
  obtain ⟨l, h3, h4⟩ := crFs_mem _ _ g h1
  refine ⟨l, fun e => ?_, h3, h4⟩
  rw [h4, e] at h2
  simp at h2
theorem crFs_same : ∀ (fs : List Fl) (f : List Int), (∀ g ∈ fs, ∃ l : List Sec, l ≠ [] ∧ (∀ x ∈ l, x ≠ noSec) ∧ g.cs = l.map fun s => ⟨s, none⟩) → crFs fs f = fs
  | [], _, _ => rfl
  | x :: fs, f, h => by
    obtain ⟨l, h1, h2, h3⟩ := h x (by simp)
    have e : crF x f = (x, f) := by
      unfold crF
      rw [h3, crC_mk]
      simp only
      rw [trimS_full h2, ← h3]
    rw [crFs, e]
    simp only
    rw [crFs_same fs f fun g hg => h g (by simp [hg])]
theorem Crashed.again {d : Dk} (h : Crashed d) (f : List Int) : crD d f = d := by
  obtain ⟨h1, h2, h3⟩ := h
  unfold crD
  rw [crFs_same d.fs f h1]
  have : d.fs.filter (fun f => decide (f.cs ≠ [])) = d.fs := List.filter_eq_self.2 fun g hg => by
    obtain ⟨l, h4, _, h5⟩ := h1 g hg
    rw [h5]
    simp [h4]
  rw [this]
  obtain ⟨m, fs, fu, off⟩ := d
  simp only at h2 h3
  rw [h2, h3]
end Go.Proofs.Ytghhhlbpolhkhaa
