/- Layer 16, plain: a disk with a journal alone on it. Layer 16, plain: a journal's disk behind a crash. Layer 16: Split of no bytes, whatever slice that is. -/
import Derived.Test.YthmjejmignangaaGreatDoorJPb
import Derived.Test.YthmjejmignangaaGreatDoorJKn
import Derived.Test.YthmjejmignangaaGreatDoorJP
namespace Go.Proofs.YthmjejmignangaaGreatDoor
open Go.RowKit
/-- The disk's files: none, or the journal's. -/
def OneF (cs : List Cl) (fs : List Fl) : Prop := (cs = [] ∧ fs = []) ∨ (cs ≠ [] ∧ fs = [⟨fL, cs⟩])
def SmC (cs : List Cl) : Prop := ∀ c ∈ cs, c.s.b.length ≤ 64 ∧ ∀ x, c.n = some x → x.b.length ≤ 64
theorem OneF.cs {cs : List Cl} {fs : List Fl} (h : OneF cs fs) : csOf fs fL = cs := by
  rcases h with ⟨rfl, rfl⟩ | ⟨_, rfl⟩
  · rfl
  · unfold csOf fileOf
    simp
theorem OneF.used {cs : List Cl} {fs : List Fl} (h : OneF cs fs) : (fs.map fun f => f.cs.length).sum = cs.length ∧ fs.length ≤ 1 := by
  rcases h with ⟨rfl, rfl⟩ | ⟨_, rfl⟩ <;> simp
theorem wrC_ne {cs : List Cl} {at_ : Nat} {x : Sec} : wrC cs at_ x ≠ [] := fun e => by
  have := wrC_length cs at_ x
  rw [e] at this
  simp only [List.length_nil] at this
  split at this <;> omega
theorem OneF.put {cs : List Cl} {fs : List Fl} (h : OneF cs fs) (at_ : Nat) (x : Sec) : OneF (wrC cs at_ x) (putF fs fL at_ x) := by
  rcases h with ⟨rfl, rfl⟩ | ⟨_, rfl⟩
  · exact .inr ⟨wrC_ne, rfl⟩
  · refine .inr ⟨wrC_ne, ?_⟩
    unfold putF fileOf modF
    simp
theorem OneF.mod {cs : List Cl} {fs : List Fl} (h : OneF cs fs) (t : List Cl → List Cl) (ht : t [] = []) (ht2 : ∀ l, l ≠ [] → t l ≠ []) : OneF (t cs) (modF t fL fs) := by
  rcases h with ⟨rfl, rfl⟩ | ⟨h, rfl⟩
  · exact .inl ⟨ht, rfl⟩
  · refine .inr ⟨ht2 _ h, ?_⟩
    unfold modF
    simp
theorem SmC.wr {cs : List Cl} (h : SmC cs) {at_ : Nat} (hat : at_ ≤ cs.length) {b : Bt} (hb : b.length ≤ 64) : SmC (wrC cs at_ (fillS b)) := fun c hc => by
  obtain ⟨j, hj⟩ := List.mem_iff_getElem?.1 hc
  rw [wrC_get _ hat] at hj
  split at hj
  · rw [← Option.some.inj hj]
    refine ⟨?_, fun x hx => ?_⟩
    · cases e : cs[j]? with
      | none => simp [noSec]
      | some c' => exact (h c' (List.mem_iff_getElem?.2 ⟨j, e⟩)).1
    · rw [← Option.some.inj hx]
      unfold fillS padB
      simp
      omega
  · exact h c (List.mem_iff_getElem?.2 ⟨j, hj⟩)
/-- One Write. -/
theorem write_one {d : Dk} {cs : List Cl} (h : OneF cs d.fs) (ho : d.off = false) {at_ : Nat} (hat : at_ ≤ cs.length) {b : Bt} (hb : b.length ≤ 64) :
    (writeE d fL at_ b = 0 ∧ OneF (wrC cs at_ (fillS b)) (writeD d fL at_ b).fs ∧ (writeD d fL at_ b).off = false ∧ (writeD d fL at_ b).fuse = burnF d.fuse ∧ (writeD d fL at_ b).most = d.most) ∨
    (writeE d fL at_ b = 7 ∧ writeD d fL at_ b = d ∧ d.most ≤ (cs.length : Nat)) ∨
    (writeE d fL at_ b = 9 ∧ (writeD d fL at_ b).fs = d.fs ∧ (writeD d fL at_ b).off = true ∧ (writeD d fL at_ b).most = d.most ∧ d.fuse = 0) := by
  have hn : ¬ (nameB fL = false ∨ 64 < b.length) := by
    rw [kn_name]
    simp
    omega
  have hc := h.cs
  have ha : ¬ ((at_ : Int) < 0 ∨ ((csOf d.fs fL).length : Int) < at_) := by rw [hc]; omega
  unfold writeE writeD
  rw [ho, if_neg hn, if_neg ha, if_neg hn, if_neg ha, hc]
  simp only [Bool.false_eq_true, if_false, Int.toNat_natCast]
  obtain ⟨hu, hf⟩ := h.used
  by_cases q : fullD d cs.length at_ = true
  · rw [if_pos q, if_pos q]
    refine .inr (.inl ⟨rfl, rfl, ?_⟩)
    unfold fullD at q
    have hu2 : usedD d = cs.length := hu
    rw [hu2] at q
    simp only [Bool.or_eq_true, Bool.and_eq_true, decide_eq_true_eq] at q
    rcases q with q | q
    · exact q.2
    · omega
  · rw [if_neg q, if_neg q]
    by_cases z : d.fuse = 0
    · rw [if_pos z, if_pos z]
      exact .inr (.inr ⟨rfl, rfl, rfl, rfl, z⟩)
    · rw [if_neg z, if_neg z]
      exact .inl ⟨rfl, h.put _ _, rfl, rfl, rfl⟩
/-- Several Writes. -/
theorem wrAll_one : ∀ (L : List Bt) {d : Dk} {cs : List Cl}, OneF cs d.fs → d.off = false → SmC cs → ∀ {at_ : Nat}, at_ ≤ cs.length → (∀ x ∈ L, x.length ≤ 64) →
    ∃ k, k ≤ L.length ∧ (wrAll d fL at_ L).2.2 = k ∧ OneF (putC cs at_ (L.take k)) (wrAll d fL at_ L).1.fs ∧ SmC (putC cs at_ (L.take k)) ∧ (wrAll d fL at_ L).1.most = d.most ∧
      (d.fuse = -1 → (wrAll d fL at_ L).1.fuse = -1 ∧ (wrAll d fL at_ L).2.1 ≠ 9) ∧
      (((wrAll d fL at_ L).2.1 = 0 ∧ k = L.length ∧ (wrAll d fL at_ L).1.off = false) ∨ ((wrAll d fL at_ L).2.1 = 7 ∧ k < L.length ∧ (wrAll d fL at_ L).1.off = false ∧ d.most ≤ ((cs.length + L.length : Nat) : Int)) ∨ ((wrAll d fL at_ L).2.1 = 9 ∧ k < L.length ∧ (wrAll d fL at_ L).1.off = true))
  | [], d, cs, h, ho, hs, at_, hat, hL => ⟨0, Nat.le_refl _, rfl, h, hs, rfl, fun e => ⟨e, fun q => absurd (show (0 : Int) = 9 from q) (by decide)⟩, .inl ⟨rfl, rfl, ho⟩⟩
  | b :: r, d, cs, h, ho, hs, at_, hat, hL => by
    have hb : b.length ≤ 64 := hL b (by simp)
    unfold wrAll
    rcases write_one h ho hat hb with ⟨e1, e2, e3, e4, e5⟩ | ⟨e1, e2, e3⟩ | ⟨e1, e2, e3, e4, e5⟩
    · rw [if_pos e1]
      have hl := wrC_length cs at_ (fillS b)
      rw [if_pos hat] at hl
      obtain ⟨k, k1, k2, k3, k4, k5, k6, k7⟩ := wrAll_one r e2 e3 (hs.wr hat hb) (at_ := at_ + 1) (by omega) (fun x hx => hL x (by simp [hx]))
      have hcast : ((at_ + 1 : Nat) : Int) = (at_ : Int) + 1 := by omega
      rw [hcast] at k2 k3 k5 k6 k7
      refine ⟨k + 1, by simp; omega, by show (wrAll _ _ _ _).2.2 + 1 = k + 1; rw [k2], k3, k4, by rw [← e5]; exact k5, fun q => k6 (by rw [e4, q]; rfl), ?_⟩
      rcases k7 with ⟨q1, q2, q3⟩ | ⟨q1, q2, q3, q4⟩ | ⟨q1, q2, q3⟩
      · exact .inl ⟨q1, by simp; omega, q3⟩
      · refine .inr (.inl ⟨q1, by simp; omega, q3, ?_⟩)
        rw [e5] at q4
        rw [List.length_cons]
        omega
      · exact .inr (.inr ⟨q1, by simp; omega, q3⟩)
    · rw [if_neg (by rw [e1]; decide), e1, e2]
      exact ⟨0, Nat.zero_le _, rfl, h, hs, rfl, fun e => ⟨e, fun q => absurd (show (7 : Int) = 9 from q) (by decide)⟩, .inr (.inl ⟨rfl, by simp, ho, by rw [List.length_cons]; omega⟩)⟩
    · rw [if_neg (by rw [e1]; decide), e1]
      refine ⟨0, Nat.zero_le _, rfl, by rw [e2]; exact h, hs, e4, fun e => absurd (e.symm.trans e5) (by decide), .inr (.inr ⟨rfl, by simp, e3⟩)⟩
/-- A journal on its disk: what is sure, what may be. -/
structure JD (d : Dk) (g : Jn) (sure may : List Bt) : Prop where
  ex : ∃ cs k0 el, OneF cs d.fs ∧ SmC cs ∧ JI cs g sure may k0 el ∧ (g.wt = true → cs ≠ [])
  ep : 1 ≤ g.ep
theorem splitL_64 (e n : Int) (b : Bt) : ∀ x ∈ splitL e n b, x.length ≤ 64 := fun x hx => by
  unfold splitL at hx
  obtain ⟨i, hi, rfl⟩ := List.mem_map.1 hx
  rw [secB_length _ (by simp; omega)]
  exact Nat.le_refl _
theorem putC_ne {cs : List Cl} {at_ : Nat} {L : List Bt} (h : at_ ≤ cs.length) (hne : cs ≠ [] ∨ 0 < L.length) : putC cs at_ L ≠ [] := fun e => by
  have := putC_length L cs at_ h
  rw [e] at this
  simp only [List.length_nil] at this
  rcases hne with q | q
  · have := List.length_pos_iff.2 q; omega
  · omega
/-- Behind Append. -/
theorem JD.append {d : Dk} {g : Jn} {sure may : List Bt} (h : JD d g sure may) (ho : d.off = false) (b : Bt) (hb : b.length ≤ 176128) (he : g.ep ≤ 4611686018427387904) (hn : g.cnt < 4611686018427387904) :
    (apX g d fL b).1.most = d.most ∧ (d.fuse = -1 → (apX g d fL b).1.fuse = -1 ∧ (apX g d fL b).2.1 ≠ 9) ∧ (apJ g d fL b).ep ≤ g.ep + 1 ∧ usedD (apX g d fL b).1 ≤ usedD d + cntS b ∧
    (((apX g d fL b).2.1 = 0 ∧ (apX g d fL b).1.off = false ∧ JD (apX g d fL b).1 (apJ g d fL b) sure (may ++ [b])) ∨
     ((apX g d fL b).2.1 = 7 ∧ (apX g d fL b).1.off = false ∧ JD (apX g d fL b).1 (apJ g d fL b) sure may ∧ d.most ≤ ((usedD d + cntS b : Nat) : Int)) ∨
     ((apX g d fL b).2.1 = 9 ∧ (apX g d fL b).1.off = true ∧ JD (apX g d fL b).1 (apJ g d fL b) sure may)) := by
  obtain ⟨⟨cs, k0, el, h1, h2, h3, h4⟩, h5⟩ := h
  have hen : 0 ≤ g.en := by
    obtain ⟨e, _, _, _, k4, _⟩ := tell_split (l := pN cs)
    rw [h3.en, k4]; omega
  have hcn : 0 ≤ g.cnt := by rw [h3.cnt]; omega
  have s1 : stmpB g.ep = true := by unfold stmpB; simp; omega
  have s2 : stmpB (g.cnt + 1) = true := by unfold stmpB; simp; omega
  have hec := (h3.put b hb s1 s2 0 (Nat.zero_le _) false).1
  obtain ⟨k, k1, k2, k3, k4, k5, k6, k7⟩ := wrAll_one (splitL g.ep (g.cnt + 1) b) h1 ho h2 hec (splitL_64 _ _ _)
  rw [show ((g.en.toNat : Nat) : Int) = g.en by omega] at k2 k3 k5 k6 k7
  rw [splitL_length] at k1 k7
  have hX : apX g d fL b = wrAll d fL g.en (splitL g.ep (g.cnt + 1) b) := rfl
  rw [← hX] at k2 k3 k5 k6 k7
  have hJ : apJ g d fL b = if (apX g d fL b).2.1 = 0 then ⟨g.cnt + 1, g.en + cntS b, g.ep, g.wt || decide (0 < k)⟩ else ⟨g.cnt, g.en, g.ep + 1, g.wt || decide (0 < k)⟩ := by unfold apJ; rw [k2]
  have hwt : (g.wt || decide (0 < k)) = true → putC cs g.en.toNat ((splitL g.ep (g.cnt + 1) b).take k) ≠ [] := fun q => by
    refine putC_ne hec ?_
    rw [Bool.or_eq_true, decide_eq_true_eq] at q
    rcases q with q | q
    · exact .inl (h4 q)
    · exact .inr (by rw [List.length_take, splitL_length]; omega)
  obtain ⟨-, p1, p2⟩ := h3.put b hb s1 s2 k k1 (g.wt || decide (0 < k))
  have hus : usedD d = cs.length := h1.used.1
  have hus2 : usedD (apX g d fL b).1 ≤ usedD d + cntS b := by
    have e1 : usedD (apX g d fL b).1 = (putC cs g.en.toNat ((splitL g.ep (g.cnt + 1) b).take k)).length := k3.used.1
    rw [e1, hus, putC_length _ _ _ hec, List.length_take, splitL_length]
    omega
  refine ⟨k5, k6, by rw [hJ]; split <;> (simp only []; omega), hus2, ?_⟩
  rcases k7 with ⟨q1, q2, q3⟩ | ⟨q1, q2, q3, q4⟩ | ⟨q1, q2, q3⟩
  · rw [if_pos q1] at hJ
    exact .inl ⟨q1, q3, ⟨_, k0, el, k3, k4, by rw [hJ]; exact p1 q2, by rw [hJ]; exact hwt⟩, by rw [hJ]; exact h5⟩
  · rw [if_neg (by rw [q1]; decide)] at hJ
    refine .inr (.inl ⟨q1, q3, ⟨⟨_, k0, el, k3, k4, by rw [hJ]; exact p2 q2, by rw [hJ]; exact hwt⟩, by rw [hJ]; show 1 ≤ g.ep + 1; omega⟩, ?_⟩)
    rw [hus]
    exact q4
  · rw [if_neg (by rw [q1]; decide)] at hJ
    exact .inr (.inr ⟨q1, q3, ⟨_, k0, el, k3, k4, by rw [hJ]; exact p2 q2, by rw [hJ]; exact hwt⟩, by rw [hJ]; show 1 ≤ g.ep + 1; omega⟩)
theorem OneF.has {cs : List Cl} {d : Dk} (h : OneF cs d.fs) : (hasF d fL = true ↔ cs ≠ []) ∧ (fileOf d.fs fL = if cs = [] then none else some ⟨fL, cs⟩) := by
  rcases h with ⟨rfl, e⟩ | ⟨h, e⟩
  · unfold hasF namesD fileOf
    rw [e]
    exact ⟨by decide, rfl⟩
  · unfold hasF namesD fileOf
    rw [e]
    refine ⟨⟨fun _ => h, fun _ => (by decide +kernel : Lib.containsS [⟨fL.toArray⟩] ⟨fL.toArray⟩ = true)⟩, ?_⟩
    rw [if_neg h]
    simp
theorem syncC_sm {cs : List Cl} (h : SmC cs) : SmC (syncC cs) := fun c hc => by
  obtain ⟨x, h1, rfl⟩ := List.mem_map.1 hc
  refine ⟨?_, fun y hy => by cases hy⟩
  show x.now.b.length ≤ 64
  unfold Cl.now
  cases e : x.n with
  | none => exact (h x h1).1
  | some y => exact (h x h1).2 y e
theorem syncC_ne {cs : List Cl} (h : cs ≠ []) : syncC cs ≠ [] := by
  intro e
  unfold syncC at e
  exact h (List.map_eq_nil_iff.1 e)
/-- Behind Sync. -/
theorem JD.sync {d : Dk} {g : Jn} {sure may : List Bt} (h : JD d g sure may) (ho : d.off = false) :
    (syD g d fL).most = d.most ∧ usedD (syD g d fL) = usedD d ∧ (d.fuse = -1 → (syD g d fL).fuse = -1 ∧ syE g d fL ≠ 9) ∧
    ((syE g d fL = 0 ∧ (syD g d fL).off = false ∧ JD (syD g d fL) g (sure ++ may) []) ∨ (syE g d fL = 9 ∧ (syD g d fL).off = true ∧ JD (syD g d fL) g sure may)) := by
  obtain ⟨⟨cs, k0, el, h1, h2, h3, h4⟩, h5⟩ := h
  obtain ⟨hh, hfo⟩ := OneF.has h1
  unfold syE syD
  by_cases hu : untB g d fL = true
  · rw [if_pos hu, if_pos hu]
    refine ⟨rfl, rfl, fun e => ⟨e, by decide⟩, .inl ⟨rfl, ho, ?_⟩⟩
    have hcs : cs = [] := by
      unfold untB at hu
      simp only [Bool.and_eq_true, Bool.not_eq_true'] at hu
      by_cases q : cs = []
      · exact q
      · rw [hh.2 q] at hu; simp at hu
    have ht := h3.told
    rw [hcs] at ht
    have hnil : sure ++ may = [] := ht.symm
    obtain ⟨e1, e2⟩ := List.append_eq_nil_iff.1 hnil
    subst e1 e2
    exact ⟨⟨cs, k0, el, h1, h2, h3, h4⟩, h5⟩
  · rw [if_neg hu, if_neg hu]
    have hcs : cs ≠ [] := fun q => hu (by
      unfold untB
      have e1 : g.wt = false := by
        cases e : g.wt with
        | false => rfl
        | true => exact absurd q (h4 e)
      have e2 : hasF d fL = false := by
        cases e : hasF d fL with
        | false => rfl
        | true => exact absurd q (hh.1 e)
      rw [e1, e2]; rfl)
    rw [if_neg hcs] at hfo
    unfold syncE syncD
    rw [ho]
    simp only [Bool.false_eq_true, if_false]
    by_cases z : d.fuse = 0
    · rw [if_pos z, if_pos z]
      exact ⟨rfl, rfl, fun e => absurd (e.symm.trans z) (by decide), .inr ⟨rfl, rfl, ⟨cs, k0, el, h1, h2, h3, h4⟩, h5⟩⟩
    · rw [if_neg z, if_neg z, hfo]
      have hm := h1.mod syncC rfl fun l hl => syncC_ne hl
      refine ⟨rfl, ?_, fun e => ⟨by show burnF d.fuse = -1; rw [e]; rfl, fun q => absurd (show (0 : Int) = 9 from q) (by decide)⟩, .inl ⟨rfl, rfl, ⟨syncC cs, _, _, hm, syncC_sm h2, h3.sync, fun _ => syncC_ne hcs⟩, h5⟩⟩
      have e1 : usedD ⟨d.most, modF syncC fL d.fs, burnF d.fuse, d.off⟩ = (syncC cs).length := hm.used.1
      have e2 : usedD d = cs.length := h1.used.1
      rw [e2, ← ho, e1]
      unfold syncC
      simp
/-- A disk that may be opened: what it tells, and how great its epochs are. -/
def FD (d : Dk) (rs : List Bt) (E : Int) : Prop := d.off = false ∧ d.fuse = -1 ∧ ∃ cs, OneF cs d.fs ∧ SmC cs ∧ (tRun tStart (pN cs)).rs = rs ∧ ∀ c ∈ cs, (partS c.now).2 = true → (partS c.now).1.e ≤ E
theorem JD.calm {d : Dk} {g : Jn} {sure may : List Bt} (h : JD d g sure may) (ho : d.off = false) (hf : d.fuse = -1) : FD d (sure ++ may) g.ep := by
  obtain ⟨⟨cs, k0, el, h1, h2, h3, h4⟩, h5⟩ := h
  exact ⟨ho, hf, cs, h1, h2, h3.told, h3.le⟩
/-- Opened. -/
theorem FD.opened {d : Dk} {rs : List Bt} {E : Int} (h : FD d rs E) (hE : 0 ≤ E) : (opE d fL = 0 ∨ opE d fL = 3) ∧ (∀ s ∈ readL d fL, s.b.length ≤ 64) ∧ (opS d fL).rs = rs ∧ (opJ d fL).ep ≤ E + 1 ∧ JD (opD d fL) (opJ d fL) rs [] ∧ (opD d fL).off = false ∧ (opD d fL).fuse = -1 ∧ (opD d fL).most = d.most ∧ (opJ d fL).cnt = (rs.length : Nat) ∧ usedD (opD d fL) = usedD d := by
  obtain ⟨ho, hf, cs, h1, h2, h3, h4⟩ := h
  obtain ⟨_, hfo⟩ := OneF.has h1
  have hR : (readL d fL).map partS = pN cs := by
    unfold readL
    rw [ho, hfo]
    by_cases q : cs = []
    · rw [if_pos q, q]; rfl
    · rw [if_neg q]
      simp only [Bool.false_eq_true, if_false, List.map_map]
      rfl
  have hS : opS d fL = tRun tStart (pN cs) := by unfold opS; rw [hR]
  have hM : opM d fL = mostE (pN cs) := by unfold opM; rw [hR]
  have hJ : opJ d fL = ⟨(tRun tStart (pN cs)).rs.length, (tRun tStart (pN cs)).en, mostE (pN cs) + 1, false⟩ := by unfold opJ; rw [hS, hM]
  have hm0 : 0 ≤ mostE (pN cs) := (mostE_range _ fun x hx => by
    obtain ⟨c, _, rfl⟩ := List.mem_map.1 hx
    exact partS_fact _).1
  have hmE : mostE (pN cs) ≤ E := mostE_bd _ _ hE fun x hx hx2 => by
    obtain ⟨c, hc, rfl⟩ := List.mem_map.1 hx
    exact h4 c hc hx2
  have hsm : ∀ s ∈ readL d fL, s.b.length ≤ 64 := fun s hs => by
    unfold readL at hs
    rw [ho, hfo] at hs
    by_cases q : cs = []
    · rw [if_pos q] at hs; simp at hs
    · rw [if_neg q] at hs
      simp only [Bool.false_eq_true, if_false] at hs
      obtain ⟨c, hc, rfl⟩ := List.mem_map.1 hs
      unfold Cl.now
      cases e : c.n with
      | none => exact (h2 c hc).1
      | some y => exact (h2 c hc).2 y e
  have hD : (opE d fL = 0 ∨ opE d fL = 3) ∧ OneF (syncC cs) (opD d fL).fs ∧ (opD d fL).off = false ∧ (opD d fL).fuse = -1 ∧ (opD d fL).most = d.most := by
    unfold opE opD readE syncE syncD
    rw [ho, hfo]
    by_cases q : cs = []
    · subst q
      simp only [if_true, Bool.false_eq_true, if_false]
      rw [if_neg (by decide), if_neg (by decide)]
      exact ⟨.inr rfl, h1, ho, hf, rfl⟩
    · rw [if_neg q]
      simp only [Bool.false_eq_true, if_false]
      rw [if_pos trivial, if_pos trivial, if_neg (by rw [hf]; decide), if_neg (by rw [hf]; decide)]
      exact ⟨.inl rfl, h1.mod syncC rfl fun l hl => syncC_ne hl, rfl, by show burnF d.fuse = -1; rw [hf]; rfl, rfl⟩
  refine ⟨hD.1, hsm, by rw [hS, h3], by rw [hJ]; show mostE (pN cs) + 1 ≤ E + 1; omega, ⟨⟨syncC cs, (opJ d fL).en.toNat, mostE (pN cs) + 1, hD.2.1, syncC_sm h2, ?_, fun e => by rw [hJ] at e; cases e⟩, by rw [hJ]; show 1 ≤ mostE (pN cs) + 1; omega⟩, hD.2.2.1, hD.2.2.2.1, hD.2.2.2.2, by rw [hJ, h3], ?_⟩
  · have := JI.opened (cs := cs) (opJ d fL) hJ
    rw [h3] at this
    exact this
  · have e1 : usedD (opD d fL) = (syncC cs).length := hD.2.1.used.1
    have e2 : usedD d = cs.length := h1.used.1
    rw [e1, e2]
    unfold syncC
    simp
end Go.Proofs.YthmjejmignangaaGreatDoor
namespace Go.Proofs.YthmjejmignangaaGreatDoor
open Go.RowKit
theorem part_bad : partS badSec = (noPrt, false) := by decide +kernel
theorem part_fill : partS (fillS []) = (noPrt, false) := by decide +kernel
theorem crC_get : ∀ (cs : List Cl) (f : List Int), (crC cs f).1.length = cs.length ∧ ∀ j (h : j < cs.length) (h2 : j < (crC cs f).1.length), (crC cs f).1[j] = cs[j].s ∨ ∃ v, cs[j].n = some v ∧ ((crC cs f).1[j] = v ∨ (crC cs f).1[j] = badSec)
  | [], f => ⟨rfl, fun j h => absurd h (Nat.not_lt_zero _)⟩
  | c :: cs, f => by
    have key : ∀ (x : Sec) (f' : List Int), (x = c.s ∨ ∃ v, c.n = some v ∧ (x = v ∨ x = badSec)) → ((x :: (crC cs f').1).length = (c :: cs).length ∧ ∀ j (h : j < (c :: cs).length) (h2 : j < (x :: (crC cs f').1).length), (x :: (crC cs f').1)[j] = (c :: cs)[j].s ∨ ∃ v, (c :: cs)[j].n = some v ∧ ((x :: (crC cs f').1)[j] = v ∨ (x :: (crC cs f').1)[j] = badSec)) := fun x f' hx => by
      obtain ⟨i1, i2⟩ := crC_get cs f'
      refine ⟨by rw [List.length_cons, List.length_cons, i1], fun j h h2 => ?_⟩
      cases j with
      | zero => exact hx
      | succ j =>
        simp only [List.length_cons] at h h2
        exact i2 j (by omega) (by omega)
    have ex : ∃ x f', (crC (c :: cs) f).1 = x :: (crC cs f').1 ∧ (x = c.s ∨ ∃ v, c.n = some v ∧ (x = v ∨ x = badSec)) := by
      cases hn : c.n with
      | none => exact ⟨c.s, f, by cases f <;> simp [crC, hn], .inl rfl⟩
      | some v =>
        cases f with
        | nil => exact ⟨c.s, [], by simp [crC, hn], .inl rfl⟩
        | cons a f =>
          refine ⟨fateS c.s v a, f, by simp [crC, hn], ?_⟩
          unfold fateS
          split
          · exact .inr ⟨v, rfl, .inl rfl⟩
          · split
            · exact .inr ⟨v, rfl, .inr rfl⟩
            · exact .inl rfl
    obtain ⟨x, f', e, hx⟩ := ex
    have := key x f' hx
    rw [← e] at this
    exact ⟨this.1, fun j h h2 => by
      have q := this.2 j h h2
      exact q⟩
theorem cutS_spec : ∀ xs : List Sec, ∃ r, xs = cutS xs ++ r ∧ ∀ x ∈ r, x = noSec
  | [] => ⟨[], rfl, fun x hx => by simp at hx⟩
  | x :: l => by
    obtain ⟨r, h1, h2⟩ := cutS_spec l
    unfold cutS
    by_cases h : x = noSec ∧ cutS l = []
    · rw [if_pos h]
      rw [h.2] at h1
      refine ⟨x :: l, rfl, fun y hy => ?_⟩
      rcases List.mem_cons.1 hy with rfl | hy
      · exact h.1
      · rw [h1] at hy
        exact h2 y hy
    · rw [if_neg h]
      exact ⟨r, by rw [List.cons_append, ← h1], h2⟩
/-- Cells behind a crash. -/
def crCells (cs : List Cl) (f : List Int) : List Cl := (trimS (crC cs f).1).map fun s => ⟨s, none⟩
theorem trim_parts (xs : List Sec) : (trimS xs).map partS = (cutS xs).map partS := by
  unfold trimS
  rw [List.map_map]
  apply List.map_congr_left
  intro x _
  show partS (if x = noSec then fillS [] else x) = _
  split
  · rename_i e; rw [e, part_fill, part_no]
  · rfl
theorem crCells_now (cs : List Cl) (f : List Int) : pN (crCells cs f) = (trimS (crC cs f).1).map partS := by
  unfold pN crCells
  rw [List.map_map]
  rfl
theorem crash_run (cs : List Cl) (f : List Int) (s : TSt) : tRun s (pN (crCells cs f)) = tRun s ((crC cs f).1.map partS) := by
  obtain ⟨r, h1, h2⟩ := cutS_spec (crC cs f).1
  rw [crCells_now, trim_parts]
  conv => rhs; rw [h1, List.map_append]
  refine (tRun_bad _ _ _ fun x hx => ?_).symm
  obtain ⟨y, hy, rfl⟩ := List.mem_map.1 hx
  rw [h2 y hy, part_no]
theorem crash_chs (cs : List Cl) (f : List Int) : Chs cs ((crC cs f).1.map partS) := by
  obtain ⟨h1, h2⟩ := crC_get cs f
  refine ⟨by rw [List.length_map, h1], fun j hj hj2 => ?_⟩
  rw [List.getElem_map]
  rcases h2 j hj (by rw [h1]; exact hj) with e | ⟨v, hv, e | e⟩
  · exact .inr (.inl (by rw [e]))
  · refine .inl ?_
    rw [e]; unfold Cl.now; rw [hv]; rfl
  · refine .inr (.inr ⟨by rw [hv]; simp, ?_⟩)
    rw [e, part_bad]
theorem trim_mem {xs : List Sec} {y : Sec} (h : y ∈ trimS xs) : y ∈ xs ∨ y = fillS [] := by
  unfold trimS at h
  obtain ⟨x, hx, rfl⟩ := List.mem_map.1 h
  obtain ⟨r, h1, _⟩ := cutS_spec xs
  split
  · exact .inr rfl
  · left
    rw [h1]
    exact List.mem_append_left _ hx
theorem crash_mem {cs : List Cl} {f : List Int} {c : Cl} (h : c ∈ crCells cs f) : c.n = none ∧ (c.s = fillS [] ∨ c.s = badSec ∨ ∃ d ∈ cs, c.s = d.s ∨ d.n = some c.s) := by
  unfold crCells at h
  obtain ⟨y, hy, rfl⟩ := List.mem_map.1 h
  refine ⟨rfl, ?_⟩
  rcases trim_mem hy with hy | hy
  · obtain ⟨j, hj, e⟩ := List.getElem_of_mem hy
    obtain ⟨h1, h2⟩ := crC_get cs f
    have hj2 : j < cs.length := by omega
    rcases h2 j hj2 hj with q | ⟨v, hv, q | q⟩
    · exact .inr (.inr ⟨cs[j], List.getElem_mem hj2, .inl (by rw [← e, q])⟩)
    · exact .inr (.inr ⟨cs[j], List.getElem_mem hj2, .inr (by show _ = some y; rw [hv, ← e, q])⟩)
    · exact .inr (.inl (by show y = _; rw [← e, q]))
  · exact .inl hy
theorem crash_sm {cs : List Cl} (h : SmC cs) (f : List Int) : SmC (crCells cs f) := fun c hc => by
  obtain ⟨h1, h2⟩ := crash_mem hc
  refine ⟨?_, fun x hx => by rw [h1] at hx; cases hx⟩
  rcases h2 with e | e | ⟨d, hd, e | e⟩
  · rw [e]; decide +kernel
  · rw [e]; decide +kernel
  · rw [e]; exact (h d hd).1
  · exact (h d hd).2 _ e
theorem OneF.crash {cs : List Cl} {d : Dk} (h : OneF cs d.fs) (f : List Int) : OneF (crCells cs f) (crD d f).fs := by
  rcases h with ⟨rfl, e⟩ | ⟨h, e⟩
  · unfold crD
    rw [e]
    exact .inl ⟨rfl, rfl⟩
  · have hfs : (crD d f).fs = [(⟨fL, crCells cs f⟩ : Fl)].filter fun f => decide (f.cs ≠ []) := by
      unfold crD
      rw [e]
      rfl
    rw [hfs]
    by_cases q : crCells cs f = []
    · rw [q]
      exact .inl ⟨rfl, rfl⟩
    · refine .inr ⟨q, ?_⟩
      rw [List.filter_cons_of_pos (by simp [q])]
      rfl
/-- Behind a crash. -/
theorem JD.crash {d : Dk} {g : Jn} {sure may : List Bt} (h : JD d g sure may) (f : List Int) : ∃ m, m ≤ may.length ∧ FD (crD d f) (sure ++ may.take m) g.ep := by
  obtain ⟨⟨cs, k0, el, h1, h2, h3, h4⟩, h5⟩ := h
  obtain ⟨m, hm, hr⟩ := h3.crash (crash_chs cs f)
  refine ⟨m, hm, rfl, rfl, crCells cs f, h1.crash f, crash_sm h2 f, by rw [crash_run]; exact hr, fun c hc hg => ?_⟩
  obtain ⟨q1, q2⟩ := crash_mem hc
  have hnow : c.now = c.s := by unfold Cl.now; rw [q1]; rfl
  rw [hnow] at hg ⊢
  rcases q2 with e | e | ⟨x, hx, e | e⟩
  · rw [e, part_fill] at hg; cases hg
  · rw [e, part_bad] at hg; cases hg
  · rw [e] at hg ⊢
    obtain ⟨j, hj, ej⟩ := List.getElem_of_mem hx
    by_cases hk : j < k0
    · have hn := h3.old j hj hk
      rw [ej] at hn
      have hxn : x.now = x.s := by unfold Cl.now; rw [hn]; rfl
      have := h3.le x hx
      rw [hxn] at this
      exact this hg
    · have h6 := h3.olds x (mem_dropE.2 ⟨j, by omega, by rw [List.getElem?_eq_getElem hj, ej]⟩) hg
      have := h3.elp
      omega
  · have hxn : x.now = c.s := by unfold Cl.now; rw [e]; rfl
    have := h3.le x hx
    rw [hxn] at this
    exact this hg
end Go.Proofs.YthmjejmignangaaGreatDoor
namespace Go.Proofs.YthmjejmignangaaGreatDoor
open Go.RowKit
set_option maxHeartbeats 4000000 in
set_option maxRecDepth 100000 in
theorem split_zero16 (ep nm : Int) (he : stmpB ep = true) (hn : stmpB nm = true) (a : Option Addr) (w : World) : Calls Tryz.prog 33 #[.int .i64 ep, .int .i64 nm, .slice a 0 0] w (SplitEnd ep nm [] w) := by
  have HS1 := hidb (stamp_any ep)
  have HS2 := hidb (stamp_any nm)
  rw [he] at HS1
  rw [hn] at HS2
  have hmk : ∀ V : World, (Instr.makeSlice 54 (.int .i64 1) (.int .i64 1)).run Tryz.prog V = .ok (.slice (some ⟨V.heap.size, 0, none⟩) 1 1) (V.alloc (.cells (madeCells #[.string ⟨#[]⟩] 1) 9)) := makeS16 1 (by omega)
  have hmx : max (0 : Int) 1 = 1 := by decide
  have hS0 : splitL ep nm [] = [secB ⟨ep, nm, 1, 0, []⟩] := rfl
  clear he hn
  go_enter Tryz.func33, Tryz.ntmps33
  go_upto_region 8 with (first
    | (go_at_call 62; refine (HS1.out _).mono ?_; clear HS1; rintro e w1 ⟨rfl, e1⟩; obtain rfl := e1.symm)
    | (go_at_call 62; refine (HS2.out _).mono ?_; clear HS2; rintro e w1 ⟨rfl, e1⟩; obtain rfl := e1.symm)
    | fail)
  have hb0 : Below w.heap.size w (w.alloc (.cells (madeCells #[.string ⟨#[]⟩] 1) 9)) := (Below.refl _ w).alloc (Nat.le_refl _) _
  have hmc : madeCells #[Value.string ⟨#[]⟩] 1 = #[Value.string ⟨#[]⟩] := by kernel_rfl
  have HG0 : Hid ((w.alloc (.cells (madeCells #[.string ⟨#[]⟩] 1) 9)).heap[w.heap.size]? = some (.cells #[.string ⟨#[]⟩] 9 (0, 0)) ∧ Below w.heap.size w (w.alloc (.cells (madeCells #[.string ⟨#[]⟩] 1) 9))) := hidb ⟨(heap_alloc_new w (.cells (madeCells #[.string ⟨#[]⟩] 1) 9)).trans (by rw [hmc]), hb0⟩
  clear hmk hb0 hmx hmc
  go_loopw [34] (fun iv wr => ∃ i : Nat, iv = .int .i64 i ∧ i ≤ 1 ∧ Hid (Below w.heap.size w wr ∧ wr.heap[w.heap.size]? = some (.cells (if i = 0 then #[.string ⟨#[]⟩] else #[sv (secB ⟨ep, nm, 1, 0, []⟩)]) 9 (0, 0)))) (fun iv _ => 1 - (intOf iv).toNat)
  case atStart => exact ⟨0, rfl, Nat.zero_le _, hidb ⟨HG0.out.2, HG0.out.1⟩⟩
  case round =>
    obtain ⟨i, rfl, hi, HI⟩ := hrel
    clear HG0
    by_cases hic : i = 0
    · subst hic
      have HSe := hidb (fun V => sector_any16 ⟨ep, nm, 1, 0, []⟩ ⟨by show (0 : Int) ≤ 0; omega, by show (0 : Int) ≤ 65535; omega⟩ ⟨by show (0 : Int) ≤ 1; omega, by show (1 : Int) ≤ 65535; omega⟩ (by show ([] : Bt).length ≤ 43; simp) V)
      obtain ⟨W2, hW2⟩ : ∃ W2, W2 = wr.alloc (.cells #[.int .i64 ep, .int .i64 nm, .int .i64 1, .int .i64 0, sv []] 71) := ⟨_, rfl⟩
      have hbx : W2.heap[wr.heap.size]? = some (.cells #[.int .i64 ep, .int .i64 nm, .int .i64 1, .int .i64 0, sv []] 71 (0, 0)) := by rw [hW2]; exact heap_alloc_new wr _
      have hw2 : Below wr.heap.size wr W2 := by rw [hW2]; exact (Below.refl _ wr).alloc (Nat.le_refl _) _
      have HFin : Hid (∀ V, Below W2.heap.size W2 V → V.cell? ⟨w.heap.size, 0, none⟩ = some (.string ⟨#[]⟩) ∧ V.frozen? ⟨w.heap.size, 0, none⟩ = false ∧ w.heap.size < V.heap.size ∧ Below w.heap.size w (V.setCell ⟨w.heap.size, 0, none⟩ (sv (secB ⟨ep, nm, 1, 0, []⟩))) ∧ (V.setCell ⟨w.heap.size, 0, none⟩ (sv (secB ⟨ep, nm, 1, 0, []⟩))).heap[w.heap.size]? = some (.cells #[sv (secB ⟨ep, nm, 1, 0, []⟩)] 9 (0, 0))) := hidb fun V hV => by
        obtain ⟨h1, h2⟩ := HI.out
        rw [if_pos rfl] at h2
        have hV2 := hw2.trans (hV.mono hw2.size)
        have h3 := (hV2.block _ (lt_of_block h2)).trans h2
        have hbw : Below w.heap.size w V := h1.trans (hV2.mono h1.size)
        exact ⟨Lib.cell_of_heap h3 0, Lib.frozen_of_heap h3 0, lt_of_block h3, hbw.setCell (Nat.le_refl _) _, (heap_setCell_same _ _ _ _ _ _ h3).trans rfl⟩
      have hcv0 : (convert 29 9 (.slice a 0 0)).run Tryz.prog wr = .ok (sv []) wr := run_str (bs := []) (.inl rfl) 0
      have hmn : min (43 : Int) 0 = 0 := by decide
      go_upto_region 12 with fail
      rw [← hW2]
      clear hW2 hcv0 hmn
      obtain ⟨x0, x1, x2, x3, x4, xl⟩ := part_cells (p := ⟨ep, nm, 1, 0, []⟩) hbx
      simp only at x0 x1 x2 x3 x4
      go_wp2_with (first
        | (go_at_call 63; refine (HSe.out _).mono ?_; clear HSe; rintro e V ⟨rfl, hV⟩; obtain ⟨y0, y1, y2, y3, y4⟩ := HFin.out V hV; have HY := hidb (And.intro y3 y4); clear HFin y3 y4)
        | fail)
      exact ⟨⟨1, rfl, Nat.le_refl _, HY⟩, by decide⟩
    · obtain rfl : i = 1 := by omega
      have hrow : Own wr w.heap.size 9 (.slice (some ⟨w.heap.size, 0, none⟩) 1 1) (svl (splitL ep nm [])) := by
        have h2 := HI.out.2
        rw [if_neg (by decide)] at h2
        rw [hS0]
        exact ⟨by simp, .inr ⟨w.heap.size, 1, #[sv (secB ⟨ep, nm, 1, 0, []⟩)], rfl, Nat.le_refl _, h2, by simp, by unfold maxLen; omega, by simp, rfl⟩⟩
      have HR := hidb (And.intro hrow HI.out.1)
      clear hrow HI
      go_wp2_with fail
      go_ret2
      exact ⟨_, _, _, rfl, hidb ⟨rfl, HR.out.1, HR.out.2⟩⟩
end Go.Proofs.YthmjejmignangaaGreatDoor
