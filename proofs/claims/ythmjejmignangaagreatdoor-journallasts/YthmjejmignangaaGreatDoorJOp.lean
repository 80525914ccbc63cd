/- Layer 16: isName, Open. -/
import Derived.Test.YthmjejmignangaaGreatDoorJZ
import Derived.Test.YthmjejmignangaaGreatDoorJT
namespace Go.Proofs.YthmjejmignangaaGreatDoor
open Go.RowKit
theorem write_new16 (file : Bt) : writeE (newD 1) file 0 [] = if nameB file = false then 1 else 0 := by
  unfold writeE newD
  simp only [Bool.false_eq_true, if_false]
  by_cases h : nameB file = false
  · rw [if_pos (.inl h), if_pos h]
  · rw [if_neg (by simp [h]), if_neg h]
    simp [csOf, fileOf, fullD, usedD]
theorem isName_any16 (file : Bt) (hf : file.length ≤ 281474976710656) (w : World) : Calls Tryz.prog 28 #[sv file] w fun e w' => e = .returned (.bool (nameB file)) ∧ Below w.heap.size w w' := by
  have HN := hidb (new15_yes 1 w (by omega) (by omega))
  have HW : Hid (∀ V db, Hid (DkAt (fun k => k < w.heap.size) db (newD 1) V ∧ Below w.heap.size w V) → Calls Tryz.prog 55 #[.pointer (some ⟨db, 0, none⟩), sv file, .int .i64 0, .string ⟨#[]⟩] V fun e w' => e = .returned (.int .i64 (if nameB file = false then 1 else 0)) ∧ Below w.heap.size w w') := hidb fun V db h => by
    refine (dwrite16 h.out.1 file 0 [] hf (by simp) (by omega)).mono fun e w' ⟨h1, h2⟩ => ⟨by rw [h1, write_new16], ?_⟩
    exact h.out.2.trans ((h2.out.2).low h.out.2.size fun i hi hn => hn hi)
  cases hb : nameB file with
  | true =>
    rw [hb] at HW
    simp only [Bool.true_eq_false, if_false] at HW
    go_enter Tryz.func28, Tryz.ntmps28
    go_wp2_with (first
      | (go_at_call 36; refine HN.out.mono ?_; clear HN; rintro e V ⟨db, rfl, h⟩)
      | (go_at_call 55; refine (HW.out _ _ h).mono ?_; clear HW; rintro e V2 ⟨rfl, hb2⟩)
      | fail)
    go_ret
    exact ⟨rfl, hb2⟩
  | false =>
    rw [hb] at HW
    simp only [if_true] at HW
    go_enter Tryz.func28, Tryz.ntmps28
    go_wp2_with (first
      | (go_at_call 36; refine HN.out.mono ?_; clear HN; rintro e V ⟨db, rfl, h⟩)
      | (go_at_call 55; refine (HW.out _ _ h).mono ?_; clear HW; rintro e V2 ⟨rfl, hb2⟩)
      | fail)
    go_ret
    exact ⟨rfl, hb2⟩
/-- What Open comes to. -/
def opE (d : Dk) (file : Bt) : Int := if readE d file = 0 then syncE d file else readE d file
def opD (d : Dk) (file : Bt) : Dk := if readE d file = 0 then syncD d file else d
def opS (d : Dk) (file : Bt) : TSt := tRun tStart ((readL d file).map partS)
def opM (d : Dk) (file : Bt) : Int := mostE ((readL d file).map partS)
def opJ (d : Dk) (file : Bt) : Jn := ⟨(opS d file).rs.length, (opS d file).en, opM d file + 1, false⟩
/-- A journal was opened. -/
def OpYes (K : Nat → Prop) (db : Nat) (file : Bt) (d : Dk) (w : World) (e : Ending) (w' : World) : Prop := ∃ z jb lb a n c cs, w.heap.size ≤ z ∧ z ≤ jb ∧ z ≤ lb ∧ e = .returned (.tuple #[.pointer (some ⟨jb, 0, none⟩), .slice a n c, .int .i64 0]) ∧ Hid (JnAt (fun k => K k ∨ (z ≤ k ∧ k < w'.heap.size)) jb lb db file (opJ d file) (opD d file) w' ∧ Own w' z 29 (.slice a n c) cs ∧ cs.length = (opS d file).rs.length ∧ (∀ (j : Nat) (x : Value) (r : Bt), cs[j]? = some x → (opS d file).rs[j]? = some r → Own w' z 5 x (r.map bv)) ∧ Kt (fun k => ¬ K k) w w')
def OpNo (K : Nat → Prop) (db : Nat) (file : Bt) (d : Dk) (w : World) (e : Ending) (w' : World) : Prop := e = .returned (.tuple #[.pointer none, .slice none 0 0, .int .i64 (opE d file)]) ∧ Hid (DkAt K db (opD d file) w' ∧ Kt (fun k => ¬ K k) w w')
theorem secJ_row {W : World} {base n : Nat} {a : Option Addr} {c : Nat} {L : List Sec} (h : W.ownsRow base 76 2 (.slice a n c) n (secCs L)) : SecJ W a L ∧ ∀ q, a = some ⟨q, 0, none⟩ → base ≤ q ∧ q < W.heap.size := by
  obtain ⟨a', c', e, _, _, h3⟩ := row_form h
  injection e with e1 _ _
  subst e1
  have hlen := h.1
  rw [secCs_length] at hlen
  rcases h3 with ⟨h0, hn, _⟩ | ⟨g, e, hb, hg, hc⟩
  · refine ⟨fun k y hy => ?_, fun q hq => by rw [h0] at hq; cases hq⟩
    have := (List.getElem?_eq_some_iff.1 hy).1
    omega
  · subst e
    refine ⟨fun k y hy => ⟨g, rfl, hg, hc _ _ (secCs_at hy).1, hc _ _ (secCs_at hy).2⟩, fun q hq => by injection hq with hq; injection hq with hq; subst hq; exact ⟨hb, hg⟩⟩
theorem readL_len {K : Nat → Prop} {db : Nat} {d : Dk} {w : World} (h : DkAt K db d w) (file : Bt) : (readL d file).length ≤ 65536 := by
  obtain ⟨vb, fsv, zs, h1, h2, h3, h4⟩ := h
  unfold readL
  split
  · simp
  · split
    · rename_i f hf
      unfold fileOf at hf
      have hm := List.mem_of_find?_eq_some hf
      rw [← h2] at hm
      obtain ⟨z, hz, rfl⟩ := List.mem_map.1 hm
      rw [List.length_map]
      exact (h1.fl z hz).len
    · simp
theorem op_no {K : Nat → Prop} {db : Nat} {d : Dk} {w W : World} {file : Bt} {e2 : Int} (he : e2 = opE d file) (h0 : e2 ≠ 0) (h3 : e2 ≠ 3) (q1 : DkAt K db (opD d file) W) (q4 : Kt (fun k => ¬ K k) w W) : (opE d file ≠ 0 ∧ opE d file ≠ 3 ∧ OpNo K db file d w (.returned (.tuple #[.pointer none, .slice none 0 0, .int .i64 e2])) W) ∨ ((opE d file = 0 ∨ opE d file = 3) ∧ OpYes K db file d w (.returned (.tuple #[.pointer none, .slice none 0 0, .int .i64 e2])) W) := by
  subst he
  exact .inl ⟨h0, h3, rfl, hidb ⟨q1, q4⟩⟩
theorem mostE_le (l : List (Prt × Bool)) (h : ∀ x ∈ l, PFact x) : mostE l ≤ 4611686018427387904 := by
  have key : ∀ (l : List (Prt × Bool)) (m : Int), m ≤ 4611686018427387904 → (∀ x ∈ l, PFact x) → l.foldl (fun m x => if x.2 then max m x.1.e else m) m ≤ 4611686018427387904 := by
    intro l
    induction l with
    | nil => intro m h _; exact h
    | cons x r ih =>
      intro m h hp
      refine ih _ ?_ fun y hy => hp y (List.mem_cons_of_mem _ hy)
      show (if x.2 = true then max m x.1.e else m) ≤ 4611686018427387904
      split
      · rename_i hx
        have h1 := ((hp x (List.mem_cons_self ..)).2 hx).1
        unfold Prt.may stmpB at h1
        simp only [Bool.and_eq_true, decide_eq_true_eq] at h1
        omega
      · exact h
  exact key l 0 (by omega) h
theorem open_fin {K : Nat → Prop} {db : Nat} {file : Bt} {d : Dk} {w W3 W4 W5 : World} {a : Option Addr} {n c : Nat} {cs : List Value} {m : Nat} (h1 : DkAt K db (opD d file) W3) (h2 : Kt (fun k => ¬ K k) w W3) (s1 : Own W4 W3.heap.size 29 (.slice a n c) cs) (s2 : cs.length = (opS d file).rs.length) (s3 : ∀ (j : Nat) (x : Value) (r : Bt), cs[j]? = some x → (opS d file).rs[j]? = some r → Own W4 W3.heap.size 5 x (r.map bv)) (s4 : Below W3.heap.size W3 W4) (hb5 : Below W4.heap.size W4 W5) (hm : (m : Int) = (opS d file).rs.length) :
    OpYes K db file d w (.returned (.tuple #[.pointer (some ⟨W5.heap.size + 1, 0, none⟩), .slice a n c, .int .i64 0])) ((W5.alloc (.cells #[.pointer (some ⟨db, 0, none⟩), sv file, .int .i64 m, .int .i64 (opS d file).en, .int .i64 (opM d file + 1), .bool false] 89)).alloc (.cells #[.pointer (some ⟨W5.heap.size, 0, none⟩)] 46)) := by
  have b35 : Below W3.heap.size W3 W5 := s4.trans (hb5.mono s4.size)
  have b57 : Below W5.heap.size W5 ((W5.alloc (.cells #[.pointer (some ⟨db, 0, none⟩), sv file, .int .i64 m, .int .i64 (opS d file).en, .int .i64 (opM d file + 1), .bool false] 89)).alloc (.cells #[.pointer (some ⟨W5.heap.size, 0, none⟩)] 46)) := ((Below.refl _ W5).alloc (Nat.le_refl _) _).alloc (by simp) _
  have b47 := hb5.trans (b57.mono hb5.size)
  have b37 := s4.trans (b47.mono s4.size)
  have hz := b35.size
  refine ⟨W3.heap.size, W5.heap.size + 1, W5.heap.size, a, n, c, cs, h2.size, by omega, by omega, rfl, hidb ⟨⟨h1.turn16 b37.size (fun k hk _ => b37.block k hk) fun k hk => hk, ?_, ?_, .inr ⟨by omega, by simp⟩, .inr ⟨by omega, by simp; omega⟩, by omega⟩, Own.below s1 b47, s2, fun j x r e1 e2 => Own.below (s3 j x r e1 e2) b47, h2.trans (Kt.below b37 : Kt (fun k => ¬ K k) W3 _) fun _ _ hk => hk⟩⟩
  · unfold LgAt opJ
    simp only
    rw [← hm]
    exact (Below.heap_alloc _ _ _ (by simp)).trans (heap_alloc_new W5 _)
  · have := heap_alloc_new (W5.alloc (.cells #[.pointer (some ⟨db, 0, none⟩), sv file, .int .i64 m, .int .i64 (opS d file).en, .int .i64 (opM d file + 1), .bool false] 89)) (.cells #[.pointer (some ⟨W5.heap.size, 0, none⟩)] 46)
    rw [World.size_alloc] at this
    exact this
set_option maxHeartbeats 4000000 in
set_option maxRecDepth 100000 in
theorem open_any16 {K : Nat → Prop} {db : Nat} {d : Dk} {w : World} (h : DkAt K db d w) (file : Bt) (hf : file.length ≤ 281474976710656) (hn : nameB file = true) (hs : ∀ s ∈ readL d file, s.b.length ≤ 64) :
    Calls Tryz.prog 12 #[.pointer (some ⟨db, 0, none⟩), sv file] w fun e w' => (opE d file ≠ 0 ∧ opE d file ≠ 3 ∧ OpNo K db file d w e w') ∨ ((opE d file = 0 ∨ opE d file = 3) ∧ OpYes K db file d w e w') := by
  have HI := hidb (isName_any16 file hf w)
  rw [hn] at HI
  have HC := hidb (fun V => strings_clone file V hf)
  have hLl := readL_len h file
  have HPF : Hid (∀ x ∈ (readL d file).map partS, PFact x) := hidb fun x hx => by obtain ⟨sec, _, rfl⟩ := List.mem_map.1 hx; exact partS_fact sec
  have hmr := mostE_range _ HPF.out
  have hmst : mostE ((readL d file).map partS) ≤ 4611686018427387904 := mostE_le _ HPF.out
  have hew : IntKind.i64.wrap (mostE ((readL d file).map partS) + 1) = mostE ((readL d file).map partS) + 1 := by rw [IntKind.wrap_i64]; omega
  have HRd : Hid (∀ V, Below w.heap.size w V → Calls Tryz.prog 29 #[.pointer (some ⟨db, 0, none⟩), sv file] V (RowEnd15 (readL d file) (readE d file) V)) := hidb fun V hV => read15_any (h.below hV) file
  have HSc : Hid (∀ V a c, SecJ V a (readL d file) → (∀ q, a = some ⟨q, 0, none⟩ → q < V.heap.size) → Calls Tryz.prog 8 #[.slice a (readL d file).length c] V (ScanEnd (opS d file) (opM d file) V)) := hidb fun V a c h1 h2 => scan_any16 a c _ (readL d file) rfl (fun s hs' => Nat.le_trans (hs s hs') (by decide)) (by omega) V h1 h2
  have HH := hidb h
  have hew' : IntKind.i64.wrap (opM d file + 1) = opM d file + 1 := hew
  clear h hew hmr hmst hs hn
  have HE : Hid (opE d file = (if readE d file = 0 then syncE d file else readE d file) ∧ opD d file = (if readE d file = 0 then syncD d file else d)) := hidb ⟨rfl, rfl⟩
  by_cases hre : readE d file = 0
  · rw [hre] at HRd HE
    simp only [if_true] at HE
    go_enter Tryz.func12, Tryz.ntmps12
    go_upto_region 5 with (first
      | (go_at_call 28; refine HI.out.mono ?_; clear HI; rintro e W1 ⟨rfl, hb1⟩)
      | (go_at_call 29; refine (HRd.out _ hb1).mono ?_; clear HRd; rintro e W2 ⟨v, rfl, hR⟩)
      | fail)
    obtain ⟨a, c, hv, -⟩ := row_form hR.out.1
    obtain ⟨m, hm⟩ : ∃ m, m = (readL d file).length := ⟨_, rfl⟩
    rw [← hm] at hv
    subst hv
    have hbW : Below w.heap.size w W2 := hb1.trans (hR.out.2.mono hb1.size)
    have hsj := secJ_row (n := m) (by rw [hm] at hR ⊢; exact hR.out.1)
    have HSy := hidb (dsync_any (K := fun k => K k ∨ (w.heap.size ≤ k ∧ k < W2.heap.size)) (HH.out.turn16 hbW.size (fun k hk _ => hbW.block k hk) fun k hk => hk) file)
    have HM : Hid (∀ W3, Hid (DkEnd (fun k => K k ∨ (w.heap.size ≤ k ∧ k < W2.heap.size)) db (syncD d file) W2 W3) → DkAt K db (opD d file) W3 ∧ SecJ W3 a (readL d file) ∧ (∀ q, a = some ⟨q, 0, none⟩ → q < W3.heap.size) ∧ Kt (fun k => ¬ K k) w W3) := hidb fun W3 hE => by
      obtain ⟨q1, q2⟩ := hE.out
      refine ⟨by rw [HE.out.2]; exact q1.less fun k hk => .inl hk, secJ_keep hsj.1 fun q hq => ?_, fun q hq => Nat.lt_of_lt_of_le (hsj.2 q hq).2 q2.size, ⟨q2.os.trans hbW.os, q2.tape.trans hbW.tape, q2.output.trans hbW.output, Nat.le_trans hbW.size q2.size, fun k hk hn => (q2.block k (Nat.lt_of_lt_of_le hk hbW.size) fun e => hn fun hk2 => e (.inl hk2)).trans (hbW.block k hk)⟩⟩
      have := hsj.2 q hq
      exact q2.block q this.2 fun e => e (.inr ⟨Nat.le_trans hb1.size this.1, this.2⟩)
    have HMm := hidb hm
    clear hsj hbW hb1 hR hm
    obtain ⟨e2, he2⟩ : ∃ e2, e2 = opE d file := ⟨_, rfl⟩
    rw [HE.out.1.symm, ← he2] at HSy
    have HEq := hidb he2
    clear he2
    by_cases h0 : e2 = 0
    · subst h0
      go_upto_region 8 with (first
        | (go_at_call 30; refine HSy.out.mono ?_; clear HSy; rintro e W3 ⟨rfl, hE⟩; obtain ⟨q1, q2, q3, q4⟩ := HM.out W3 hE; clear HM hE)
        | fail)
      have HScn := hidb (HSc.out W3 a c q2 q3)
      rw [← HMm.out] at HScn
      have HQ := hidb (And.intro q1 q4)
      clear q1 q2 q3 q4 HSc
      go_wp2_with (first
        | (go_at_call 8; refine HScn.out.mono ?_; clear HScn; rintro e W4 hsc; obtain ⟨rv, cs, rfl, s1, s2, s3, s4⟩ := hsc; obtain ⟨ra, rc, hrv, -⟩ := row_form s1; subst hrv; have HSS := hidb (And.intro s1 (And.intro s2 (And.intro s3 s4))); clear s1 s2 s3 s4)
        | (go_at_call 31; refine (HC.out _).mono ?_; clear HC; rintro e W5 ⟨rfl, hb5⟩)
        | fail)
      refine bodyPost_ret (results_tmp3 rfl _ _ _) rfl (.inr ⟨.inl HEq.out.symm, ?_⟩)
      exact open_fin HQ.out.1 HQ.out.2 HSS.out.1 HSS.out.2.1 HSS.out.2.2.1 HSS.out.2.2.2 hb5 (by rw [HSS.out.2.1])
    · have hn0 : (e2 != 0) = true := by simpa using h0
      by_cases h3 : e2 = 3
      · subst h3
        go_upto_region 8 with (first
          | (go_at_call 30; refine HSy.out.mono ?_; clear HSy; rintro e W3 ⟨rfl, hE⟩; obtain ⟨q1, q2, q3, q4⟩ := HM.out W3 hE; clear HM hE)
          | fail)
        have HScn := hidb (HSc.out W3 a c q2 q3)
        rw [← HMm.out] at HScn
        have HQ := hidb (And.intro q1 q4)
        clear q1 q2 q3 q4 HSc
        go_wp2_with (first
          | (go_at_call 8; refine HScn.out.mono ?_; clear HScn; rintro e W4 hsc; obtain ⟨rv, cs, rfl, s1, s2, s3, s4⟩ := hsc; obtain ⟨ra, rc, hrv, -⟩ := row_form s1; subst hrv; have HSS := hidb (And.intro s1 (And.intro s2 (And.intro s3 s4))); clear s1 s2 s3 s4)
          | (go_at_call 31; refine (HC.out _).mono ?_; clear HC; rintro e W5 ⟨rfl, hb5⟩)
          | fail)
        refine bodyPost_ret (results_tmp3 rfl _ _ _) rfl (.inr ⟨.inr HEq.out.symm, ?_⟩)
        exact open_fin HQ.out.1 HQ.out.2 HSS.out.1 HSS.out.2.1 HSS.out.2.2.1 HSS.out.2.2.2 hb5 (by rw [HSS.out.2.1])
      · have hn3 : (e2 != 3) = true := by simpa using h3
        go_wp2_with (first
          | (go_at_call 30; refine HSy.out.mono ?_; clear HSy; rintro e W3 ⟨rfl, hE⟩; obtain ⟨q1, q2, q3, q4⟩ := HM.out W3 hE; clear HM hE)
          | fail)
        refine bodyPost_ret (results_tmp3 rfl _ _ _) rfl ?_
        exact op_no HEq.out h0 h3 q1 q4
  · have hre' : (readE d file == 0) = false := by simpa using hre
    rw [if_neg hre, if_neg hre] at HE
    obtain ⟨e2, he2⟩ : ∃ e2, e2 = opE d file := ⟨_, rfl⟩
    rw [HE.out.1.symm, ← he2] at HRd hre'
    have hre2 : e2 ≠ 0 := by rw [he2, HE.out.1]; exact hre
    have HEq := hidb he2
    clear hre he2
    go_enter Tryz.func12, Tryz.ntmps12
    have HM0 : Hid (∀ W2 a c m, m = (readL d file).length → ∀ W1, Below w.heap.size w W1 → Hid (W2.ownsRow W1.heap.size 76 2 (.slice a m c) (readL d file).length (secCs (readL d file)) ∧ Below W1.heap.size W1 W2) → DkAt K db (opD d file) W2 ∧ SecJ W2 a (readL d file) ∧ (∀ q, a = some ⟨q, 0, none⟩ → q < W2.heap.size) ∧ Kt (fun k => ¬ K k) w W2) := hidb fun W2 a c m hm W1 hb1 hR => by
      have hbW : Below w.heap.size w W2 := hb1.trans (hR.out.2.mono hb1.size)
      have hsj := secJ_row (n := m) (by rw [hm] at hR ⊢; exact hR.out.1)
      exact ⟨by rw [HE.out.2]; exact HH.out.below hbW, hsj.1, fun q hq => (hsj.2 q hq).2, Kt.below hbW⟩
    have h0 := hre2
    have hn0 : (e2 != 0) = true := by simpa using h0
    by_cases h3 : e2 = 3
    · subst h3
      go_upto_region 8 with (first
        | (go_at_call 28; refine HI.out.mono ?_; clear HI; rintro e W1 ⟨rfl, hb1⟩)
        | (go_at_call 29; refine (HRd.out _ hb1).mono ?_; clear HRd; rintro e W3 ⟨v, rfl, hR⟩; obtain ⟨a, c, hv, -⟩ := row_form hR.out.1; obtain ⟨m, hm⟩ : ∃ m, m = (readL d file).length := ⟨_, rfl⟩; rw [← hm] at hv; subst hv; obtain ⟨q1, q2, q3, q4⟩ := HM0.out W3 a c m hm W1 hb1 hR; have HMm := hidb hm; clear HM0 hR hm)
        | fail)
      have HScn := hidb (HSc.out W3 a c q2 q3)
      rw [← HMm.out] at HScn
      have HQ := hidb (And.intro q1 q4)
      clear q1 q2 q3 q4 HSc
      go_wp2_with (first
        | (go_at_call 8; refine HScn.out.mono ?_; clear HScn; rintro e W4 hsc; obtain ⟨rv, cs, rfl, s1, s2, s3, s4⟩ := hsc; obtain ⟨ra, rc, hrv, -⟩ := row_form s1; subst hrv; have HSS := hidb (And.intro s1 (And.intro s2 (And.intro s3 s4))); clear s1 s2 s3 s4)
        | (go_at_call 31; refine (HC.out _).mono ?_; clear HC; rintro e W5 ⟨rfl, hb5⟩)
        | fail)
      refine bodyPost_ret (results_tmp3 rfl _ _ _) rfl (.inr ⟨.inr HEq.out.symm, ?_⟩)
      exact open_fin HQ.out.1 HQ.out.2 HSS.out.1 HSS.out.2.1 HSS.out.2.2.1 HSS.out.2.2.2 hb5 (by rw [HSS.out.2.1])
    · have hn3 : (e2 != 3) = true := by simpa using h3
      go_wp2_with (first
        | (go_at_call 28; refine HI.out.mono ?_; clear HI; rintro e W1 ⟨rfl, hb1⟩)
        | (go_at_call 29; refine (HRd.out _ hb1).mono ?_; clear HRd; rintro e W3 ⟨v, rfl, hR⟩; obtain ⟨a, c, hv, -⟩ := row_form hR.out.1; obtain ⟨m, hm⟩ : ∃ m, m = (readL d file).length := ⟨_, rfl⟩; rw [← hm] at hv; subst hv; obtain ⟨q1, q2, q3, q4⟩ := HM0.out W3 a c m hm W1 hb1 hR; have HMm := hidb hm; clear HM0 hR hm)
        | fail)
      refine bodyPost_ret (results_tmp3 rfl _ _ _) rfl ?_
      exact op_no HEq.out h0 h3 q1 q4
end Go.Proofs.YthmjejmignangaaGreatDoor
