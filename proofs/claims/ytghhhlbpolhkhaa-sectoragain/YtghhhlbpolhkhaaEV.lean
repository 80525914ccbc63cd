/- Layer 15, plain: behind a crash each sector is one of these (P1505). -/
import Derived.Test.YtghhhlbpolhkhaaET
namespace Go.Proofs.Ytghhhlbpolhkhaa
open Go.RowKit
/-- A disk of one file at most, that nothing stands against. -/
structure OneF (nm : Bt) (d : Dk) : Prop where
  fs : d.fs = [] ∨ ∃ cs, cs ≠ [] ∧ d.fs = [⟨nm, cs⟩]
  fu : d.fuse = -1
  off : d.off = false
theorem OneF.all {nm : Bt} {d : Dk} (h : OneF nm d) : ∀ f ∈ d.fs, f.name = nm := by
  rcases h.fs with e | ⟨cs, _, e⟩
  · rw [e]; simp
  · rw [e]; simp
/-- The one file's sectors. -/
def oneC (nm : Bt) (d : Dk) : List Cl := csOf d.fs nm
theorem OneF.cs {nm : Bt} {d : Dk} (h : OneF nm d) : (oneC nm d = [] ∧ d.fs = []) ∨ (oneC nm d ≠ [] ∧ d.fs = [⟨nm, oneC nm d⟩]) := by
  rcases h.fs with e | ⟨cs, hc, e⟩
  · left; unfold oneC csOf fileOf; rw [e]; exact ⟨rfl, rfl⟩
  · right
    have : oneC nm d = cs := by unfold oneC csOf fileOf; rw [e]; simp
    rw [this]
    exact ⟨hc, e⟩
theorem OneF.new (nm : Bt) (m : Int) : OneF nm (newD m) := ⟨.inl rfl, rfl, rfl⟩
/-- A write leaves such a disk; its sectors are as they were, or written. -/
theorem OneF.write {nm : Bt} {d : Dk} (h : OneF nm d) (at_ : Int) (b : Bt) : OneF nm (writeD d nm at_ b) ∧ (oneC nm (writeD d nm at_ b) = oneC nm d ∨ ∃ a x, (x ≠ noSec ∧ x.bad = false) ∧ a ≤ (oneC nm d).length ∧ oneC nm (writeD d nm at_ b) = wrC (oneC nm d) a x) := by
  unfold writeD
  rw [h.off, if_neg (by simp)]
  split
  · exact ⟨h, .inl rfl⟩
  split
  · exact ⟨h, .inl rfl⟩
  split
  · exact ⟨h, .inl rfl⟩
  rw [h.fu, if_neg (by decide)]
  rename_i hnb hrg hfl
  have hb : b.length ≤ 64 := by
    rcases Nat.lt_or_ge 64 b.length with x | x
    · exact absurd (.inr x) hnb
    · exact x
  have hx := fill_ne hb
  have hw : wrC (oneC nm d) at_.toNat (fillS b) ≠ [] := by
    intro e
    have := congrArg List.length e
    rw [len_wrC] at this
    simp at this
    split at this <;> simp_all
  have hfs : putF d.fs nm at_.toNat (fillS b) = [⟨nm, wrC (oneC nm d) at_.toNat (fillS b)⟩] := by
    rcases h.cs with ⟨e1, e2⟩ | ⟨e1, e2⟩
    · unfold putF
      rw [e2, e1]
      rfl
    · unfold putF
      have : fileOf d.fs nm = some ⟨nm, oneC nm d⟩ := by rw [e2]; simp [fileOf]
      rw [this]
      simp only
      rw [e2]
      simp [modF]
  have hcs : oneC nm ⟨d.most, putF d.fs nm at_.toNat (fillS b), burnF (-1), false⟩ = wrC (oneC nm d) at_.toNat (fillS b) := by
    show csOf (putF d.fs nm at_.toNat (fillS b)) nm = _
    rw [hfs]
    simp [csOf, fileOf]
  refine ⟨⟨.inr ⟨_, hw, hfs⟩, rfl, rfl⟩, .inr ⟨at_.toNat, fillS b, ⟨hx, rfl⟩, ?_, hcs⟩⟩
  have : ¬ ((oneC nm d).length : Int) < at_ := fun x => hrg (.inr x)
  omega
/-- While it is written: the first ones were sure. -/
structure WrP (S : List Sec) (cs : List Cl) : Prop where
  len : S.length ≤ cs.length
  old : ∀ i (h : i < S.length) (h' : i < cs.length), cs[i].s = S[i] ∧ S[i] ≠ noSec
  new : ∀ i (h : i < cs.length), S.length ≤ i → cs[i].s = noSec ∧ cs[i].n ≠ none
  wr : ∀ i (h : i < cs.length) x, cs[i].n = some x → x ≠ noSec
  gd : ∀ c ∈ cs, c.s.bad = false ∧ ∀ x, c.n = some x → x.bad = false
theorem WrP.write {S : List Sec} {cs : List Cl} (h : WrP S cs) {a : Nat} {x : Sec} (hx : x ≠ noSec) (hg : x.bad = false) (ha : a ≤ cs.length) : WrP S (wrC cs a x) := by
  have hl := h.len
  by_cases e : a < cs.length
  · have hw : wrC cs a x = cs.set a ⟨cs[a].s, some x⟩ := by unfold wrC; rw [dif_pos e]
    rw [hw]
    refine ⟨by simpa using hl, fun i h1 h2 => ?_, fun i h1 h2 => ?_, fun i h1 y hy => ?_, fun c hc => ?_⟩
    rotate_right
    · rcases List.mem_or_eq_of_mem_set hc with hc | rfl
      · exact h.gd c hc
      · exact ⟨(h.gd _ (List.getElem_mem e)).1, fun y hy => by injection hy with hy; rw [← hy]; exact hg⟩
    · rw [List.getElem_set]
      split
      · rename_i x; subst x; exact h.old a h1 e
      · exact h.old i h1 (by simpa using h2)
    · rw [List.getElem_set]
      split
      · rename_i x; subst x; exact ⟨(h.new a e h2).1, by simp⟩
      · exact h.new i (by simpa using h1) h2
    · rw [List.getElem_set] at hy
      split at hy
      · simp at hy; rw [← hy]; exact hx
      · exact h.wr i (by simpa using h1) y hy
  · have hw : wrC cs a x = cs ++ [⟨noSec, some x⟩] := by unfold wrC; rw [dif_neg e]
    rw [hw]
    refine ⟨by simp; omega, fun i h1 h2 => ?_, fun i h1 h2 => ?_, fun i h1 y hy => ?_, fun c hc => ?_⟩
    rotate_right
    · rcases List.mem_append.1 hc with hc | hc
      · exact h.gd c hc
      · rw [List.mem_singleton] at hc
        subst hc
        exact ⟨rfl, fun y hy => by injection hy with hy; rw [← hy]; exact hg⟩
    · rw [List.getElem_append_left (by omega)]
      exact h.old i h1 (by omega)
    · by_cases e2 : i < cs.length
      · rw [List.getElem_append_left e2]; exact h.new i e2 h2
      · rw [List.getElem_append_right (by omega)]; simp
    · by_cases e2 : i < cs.length
      · rw [List.getElem_append_left e2] at hy; exact h.wr i e2 y hy
      · rw [List.getElem_append_right (by omega)] at hy
        simp at hy; rw [← hy]; exact hx
/-- What a crash may make of a sector. -/
theorem crC_each (cs : List Cl) (f : List Int) : ∀ i (h : i < cs.length), ∃ y, (crC cs f).1[i]? = some y ∧ (y = cs[i].s ∨ cs[i].n = some y ∨ (y = badSec)) := by
  induction cs generalizing f with
  | nil => intro i h; simp at h
  | cons c cs ih =>
    intro i h
    rw [crC]
    cases hn : c.n with
    | none =>
      simp only
      cases i with
      | zero => exact ⟨c.s, rfl, .inl rfl⟩
      | succ i => simpa using ih f i (by simpa using h)
    | some x =>
      cases f with
      | nil =>
        simp only
        cases i with
        | zero => exact ⟨c.s, rfl, .inl rfl⟩
        | succ i => simpa using ih [] i (by simpa using h)
      | cons a f =>
        simp only
        cases i with
        | zero =>
          refine ⟨_, rfl, ?_⟩
          unfold fateS
          split
          · exact .inr (.inl hn)
          · split
            · exact .inr (.inr rfl)
            · exact .inl rfl
        | succ i => simpa using ih f i (by simpa using h)
theorem cutS_le (l : List Sec) : (cutS l).length ≤ l.length := by
  induction l with
  | nil => exact Nat.le_refl _
  | cons x l ih =>
    unfold cutS
    split
    · simp
    · simp only [List.length_cons]; omega
theorem cutS_pre (l : List Sec) : ∀ i, i < (cutS l).length → (cutS l)[i]? = l[i]? := by
  induction l with
  | nil => intro i h; simp [cutS] at h
  | cons x l ih =>
    intro i h
    unfold cutS at h ⊢
    split at h
    · simp at h
    · rename_i hne
      rw [if_neg hne]
      cases i with
      | zero => rfl
      | succ i => simpa using ih i (by simpa using h)
theorem cutS_ge (l : List Sec) (n : Nat) (hn : n ≤ l.length) (h : ∀ i (h : i < l.length), i < n → l[i] ≠ noSec) : n ≤ (cutS l).length := by
  induction l generalizing n with
  | nil => simp at hn; subst hn; exact Nat.zero_le _
  | cons x l ih =>
    cases n with
    | zero => exact Nat.zero_le _
    | succ n =>
      have h0 := h 0 (by simp) (by omega)
      have := ih n (by simpa using hn) fun i hi hin => h (i + 1) (by simpa using hi) (by omega)
      unfold cutS
      rw [if_neg (fun e => h0 e.1)]
      simp only [List.length_cons]
      omega
/-- Behind a crash. -/
structure EachP (S N L : List Sec) : Prop where
  lo : S.length ≤ L.length
  hi : L.length ≤ N.length
  each : ∀ i x, L[i]? = some x → (x = badSec ∨ (x.bad = false ∧ (N[i]? = some x ∨ S[i]? = some x ∨ (S.length ≤ i ∧ x.b = padB []))))
theorem each_plain {S : List Sec} {cs : List Cl} (h : WrP S cs) (f : List Int) : EachP S (cs.map Cl.now) (trimS (crC cs f).1) := by
  have hl := crC_len cs f
  have hlen : (trimS (crC cs f).1).length = (cutS (crC cs f).1).length := by unfold trimS; rw [List.length_map]
  refine ⟨?_, ?_, fun i x hx => ?_⟩
  · rw [hlen]
    refine cutS_ge _ _ (by rw [hl]; exact h.len) fun i hi hin => ?_
    obtain ⟨y, e1, e2⟩ := crC_each cs f i (by omega)
    rw [List.getElem?_eq_getElem hi] at e1
    injection e1 with e1
    rw [e1]
    rcases e2 with e2 | e2 | e2
    · rw [e2, (h.old i hin (by omega)).1]; exact (h.old i hin (by omega)).2
    · exact h.wr i (by omega) y e2
    · rw [e2]; decide
  · rw [hlen, List.length_map, ← hl]
    exact cutS_le _
  · have hi : i < (cutS (crC cs f).1).length := by rw [← hlen]; exact (List.getElem?_eq_some_iff.1 hx).1
    have hic : i < cs.length := by rw [← hl]; exact Nat.lt_of_lt_of_le hi (cutS_le _)
    obtain ⟨y, e1, e2⟩ := crC_each cs f i hic
    have hy : x = if y = noSec then fillS [] else y := by
      unfold trimS at hx
      rw [List.getElem?_map, cutS_pre _ i hi, e1] at hx
      simpa using hx.symm
    have hgd := h.gd _ (List.getElem_mem hic)
    by_cases hno : y = noSec
    · rw [if_pos hno] at hy
      rcases e2 with e2 | e2 | e2
      · right
        refine ⟨by rw [hy]; rfl, ?_⟩
        right; right
        refine ⟨?_, by rw [hy]; rfl⟩
        rcases Nat.lt_or_ge i S.length with z | z
        · exact absurd (by rw [← (h.old i z hic).1, ← e2, hno]) (h.old i z hic).2
        · exact z
      · exact absurd hno (h.wr i hic y e2)
      · rw [hno] at e2; exact absurd e2 (by decide)
    · rw [if_neg hno] at hy
      subst hy
      rcases e2 with e2 | e2 | e2
      · right
        refine ⟨by rw [e2]; exact hgd.1, ?_⟩
        right; left
        rcases Nat.lt_or_ge i S.length with z | z
        · rw [List.getElem?_eq_getElem z, e2, (h.old i z hic).1]
        · exact absurd (e2.trans (h.new i hic z).1) hno
      · right
        refine ⟨hgd.2 _ e2, ?_⟩
        left
        rw [List.getElem?_map, List.getElem?_eq_getElem hic]
        simp [Cl.now, e2]
      · exact .inl e2
theorem OneF.read {nm : Bt} {d : Dk} (h : OneF nm d) : readL d nm = (oneC nm d).map Cl.now := by
  unfold readL oneC csOf
  rw [h.off]
  simp only [Bool.false_eq_true, if_false]
  cases fileOf d.fs nm <;> rfl
theorem OneF.sync {nm : Bt} {d : Dk} (h : OneF nm d) : OneF nm (syncD d nm) ∧ oneC nm (syncD d nm) = syncC (oneC nm d) := by
  have hfs : modF syncC nm d.fs = if oneC nm d = [] then [] else [⟨nm, syncC (oneC nm d)⟩] := by
    rcases h.cs with ⟨e1, e2⟩ | ⟨e1, e2⟩
    · rw [if_pos e1, e2]; rfl
    · rw [if_neg e1]
      conv => lhs; rw [e2]
      simp [modF]
  have hd : syncD d nm = ⟨d.most, modF syncC nm d.fs, -1, false⟩ := by
    unfold syncD
    rw [h.off, if_neg (by simp), h.fu, if_neg (by decide)]
    rfl
  rw [hd]
  by_cases e : oneC nm d = []
  · rw [if_pos e] at hfs
    refine ⟨⟨.inl hfs, rfl, rfl⟩, ?_⟩
    show csOf (modF syncC nm d.fs) nm = _
    rw [hfs, e]
    rfl
  · rw [if_neg e] at hfs
    refine ⟨⟨.inr ⟨_, by simpa [syncC] using e, hfs⟩, rfl, rfl⟩, ?_⟩
    show csOf (modF syncC nm d.fs) nm = _
    rw [hfs]
    simp [csOf, fileOf]
theorem OneF.crash {nm : Bt} {d : Dk} (h : OneF nm d) (f : List Int) : readL (crD d f) nm = trimS (crC (oneC nm d) f).1 := by
  have hd : (crD d f).off = false := rfl
  unfold readL
  rw [hd]
  simp only [Bool.false_eq_true, if_false]
  rcases h.cs with ⟨e1, e2⟩ | ⟨e1, e2⟩
  · rw [e1]
    unfold crD
    rw [e2]
    rfl
  · have : (crD d f).fs = if trimS (crC (oneC nm d) f).1 = [] then [] else [⟨nm, (trimS (crC (oneC nm d) f).1).map mkC⟩] := by
      unfold crD
      simp only
      rw [show d.fs = [⟨nm, oneC nm d⟩] from e2]
      simp only [crFs, crF]
      by_cases e : trimS (crC (oneC nm d) f).1 = []
      · rw [if_pos e, e]; rfl
      · rw [if_neg e]
        simp [e]
    rw [this]
    by_cases e : trimS (crC (oneC nm d) f).1 = []
    · rw [if_pos e, e]; rfl
    · rw [if_neg e]
      simp [fileOf]
      rw [show (Cl.now ∘ mkC) = id from rfl, List.map_id]
/-- What phase one leaves, behind the sync. -/
theorem WrP.start {cs : List Cl} (h : WrP [] cs) : WrP (cs.map Cl.now) (syncC cs) := by
  refine ⟨by simp [syncC], fun i h1 h2 => ?_, fun i h1 h2 => ?_, fun i h1 x hx => ?_, fun c hc => ?_⟩
  rotate_right
  · obtain ⟨c0, h0, rfl⟩ := List.mem_map.1 hc
    refine ⟨?_, fun x hx => by simp at hx⟩
    have := h.gd c0 h0
    unfold Cl.now
    cases hn : c0.n with
    | none => exact this.1
    | some x => exact this.2 x hn
  · have hi : i < cs.length := by simpa using h1
    simp only [syncC, List.getElem_map]
    refine ⟨trivial, ?_⟩
    obtain ⟨_, hn⟩ := h.new i hi (Nat.zero_le _)
    obtain ⟨y, hy⟩ := Option.ne_none_iff_exists'.1 hn
    unfold Cl.now
    rw [hy]
    exact h.wr i hi y hy
  · simp [syncC] at h1 h2; omega
  · simp [syncC] at hx
end Go.Proofs.Ytghhhlbpolhkhaa
