/- Layer 11: a store's Bytes: the walk. -/
import Derived.Test.YtcjakgogdbfagaaWH
namespace Go.Proofs.Ytcjakgogdbfagaa
open Go.RowKit Go.Shelf
attribute [local go_sem] Oper.semAt_some
/-- What Bytes leaves. -/
def BytE (X : List UInt8) (w : World) (e : Ending) (w' : World) : Prop := ∃ q, e = .returned (.slice (some ⟨q, 0, none⟩) X.length X.length) ∧ OwnB w' w.heap.size (.slice (some ⟨q, 0, none⟩) X.length X.length) X ∧ Below w.heap.size w w'
/-- While the count is written. -/
def BG (sb tb g : Nat) (L : Kvs) (Z : Nat) (w : World) (ln : Nat) (Wa : World) (listed : Array Bool) (X : World) : Prop := (listed.getD 7 false = false → X = if listed.getD 6 false then Wa.drew.alloc (.cells #[.int .i64 (ln : Nat)] 3) else Wa.drew) ∧ (listed.getD 7 false = true → BWI sb tb g L Z w (ints [(ln : Int)]) X)
theorem getD_neK {listed : Array Bool} {i k : Nat} (h : i ≠ k) : (listed.setIfInBounds i true).getD k false = listed.getD k false := by rw [getD_set, if_neg fun e => h e.1]
theorem BG.put {sb tb g : Nat} {L : Kvs} {Z : Nat} {w : World} {ln : Nat} {Wa : World} {listed : Array Bool} {X : World} {i : Nat} (h : BG sb tb g L Z w ln Wa listed X) (h6 : i ≠ 6) (h7 : i ≠ 7) : BG sb tb g L Z w ln Wa (listed.setIfInBounds i true) X := by
  unfold BG
  rw [getD_neK h6, getD_neK h7]
  exact h
theorem BG.six {sb tb g : Nat} {L : Kvs} {Z : Nat} {w : World} {ln : Nat} {Wa : World} {listed : Array Bool} (hl : 6 < listed.size) (e7 : listed.getD 7 false = false) : BG sb tb g L Z w ln Wa (listed.setIfInBounds 6 true) (Wa.drew.alloc (.cells #[.int .i64 (ln : Nat)] 3)) := by
  have e6 : (listed.setIfInBounds 6 true).getD 6 false = true := by rw [getD_set, if_pos ⟨rfl, hl⟩]
  have e8 : (listed.setIfInBounds 6 true).getD 7 false = false := by rw [getD_neK (by decide), e7]
  unfold BG
  rw [e6, e8]
  exact ⟨fun _ => rfl, fun e => by cases e⟩
set_option maxRecDepth 100000 in
set_option maxHeartbeats 1000000 in
theorem bytes_w (sb tb g : Nat) (L : Kvs) (w : World) (h : StAt sb tb g L w) (hL : L.length ≤ 512) (hsm : ∀ x ∈ L, x.1.length ≤ 32 ∧ x.2.length ≤ 256) :
    Calls Try.prog 22 #[.pointer (some ⟨sb, 0, none⟩)] w (BytE (stB L) w) := by
  refine (callsIn_wide (n := 3)).1 ?_
  refine callsIn_of_wp_marks Try.func22 rfl trivial ?_ rfl
  simp only [Try.ntmps22, List.size_toArray, List.length_cons, List.length_nil, Nat.reduceAdd, Nat.reduceSub, Array.replicate_succ, Array.replicate_zero, List.push_toArray, List.append_toArray, List.nil_append, List.cons_append]
  have hmd := hidb (stmade_any sb w tb h.c)
  have HNW := hidb (newWriter_any w)
  obtain ⟨Wa, hWa⟩ : ∃ Wa, Wa = ((w.alloc (.cells #[.slice none 0 0, .int .i64 0] 102)).alloc (.cells #[.pointer (some ⟨w.heap.size, 0, none⟩)] 104)).alloc (.cells #[.pointer (some ⟨w.heap.size + 1, 0, none⟩)] 81) := ⟨_, rfl⟩
  have H0 := BWI.start h hWa
  have HI0 := hidb H0
  have Hsm := hidb hsm
  have c0 := h.c
  obtain ⟨Z, hZ⟩ : ∃ Z, Z = w.heap.size := ⟨_, rfl⟩
  clear H0 hsm
  gi_wp2_with (first
    | (refine ⟨trivial, ?_⟩; gi_at_call 26; refine (callsIn_wide.2 hmd.out).mono ?_; clear hmd; rintro e w' ⟨rfl, rfl⟩)
    | (refine ⟨trivial, ?_⟩; gi_at_call 47; refine (callsIn_wide.2 HNW.out).mono ?_; clear HNW; rintro e w' ⟨rfl, rfl⟩)
    | fail)
  rw [← hWa]
  have HZ0 := hidb hZ
  rw [← hZ] at HI0 ⊢
  have hsza : Z + 3 ≤ Wa.heap.size := HI0.out.siz
  obtain ⟨f0, f1⟩ := HI0.out.facts
  have HC := hidb fun M => count_t tb g L (Wa.drewN M) (HI0.out.st.t.drewN M)
  have HInt : Hid (∀ M, Calls Try.prog 48 #[.pointer (some ⟨Z + 1, 0, none⟩), .slice (some ⟨Wa.heap.size, 0, none⟩) 1 1] ((Wa.alloc (.cells #[.int .i64 (L.length : Nat)] 3)).drewN M) fun e w2 => e = .returned (.int .i64 0) ∧ Hid (BWI sb tb g L Z w' (ints [(L.length : Int)]) w2)) := hidb fun M => (HI0.out.below (below_drewN (Below.refl _ Wa) M)).int (L.length : Int) (by decide)
  have hltb := h.lts
  have HlZ : Hid (sb < Z ∧ tb < Z ∧ g < Z) := hidb (by rw [hZ]; exact hltb)
  obtain ⟨ln, hln⟩ : ∃ ln, ln = L.length := ⟨_, rfl⟩
  have Hln := hidb hln
  rw [← hln] at HC HInt
  clear hln
  clear hWa hZ c0 hltb HI0
  -- the region
  obtain ⟨vals, hvals⟩ : ∃ vals : Nat → Value, vals = fun i => match i with | 0 => .pointer (some ⟨Z + 1, 0, none⟩) | 1 => .pointer (some ⟨sb, 0, none⟩) | 2 => .pointer (some ⟨sb, 0, none⟩) | 3 => .pointer (some ⟨sb, 0, none⟩) | 4 => .pointer (some ⟨tb, 0, none⟩) | 5 => .int .i64 (ln : Nat) | 6 => .slice (some ⟨Wa.heap.size, 0, none⟩) 1 1 | _ => .int .i64 0 := ⟨_, rfl⟩
  refine wpIn_region_eachg (by kernel_rfl) 32 rfl (by kernel_rfl) (BG sb tb g L Z w' ln Wa) (fun _ j v _ => v = vals j) ⟨fun _ => rfl, fun e => absurd e (by decide)⟩ ?hop ?hend
  case hop =>
    intro i o ho listed a X hE hn haf
    have hi : i < 8 := (Array.getElem?_eq_some_iff.1 ho).1
    have hcl := hE.closed
    have hv := hE.vals
    have hG := hE.glob
    have t0 : a.tmps[0]?.getD undef = .pointer (some ⟨sb, 0, none⟩) := hE.rest 0 (rest_of (by kernel_rfl))
    have t3 : a.tmps[3]?.getD undef = .pointer (some ⟨Z + 1 + 1, 0, none⟩) := hE.rest 3 (rest_of (by kernel_rfl))
    match i, hi, ho, hn, haf with
    | 0, _, ho, hn, haf =>
      obtain rfl := Option.some.inj ho
      have e7 : listed.getD 7 false = false := off_ofg hn fun q => (hcl 7 _ rfl q ⟨0, .data⟩ (by simp) rfl)
      have cX : X.cell? ⟨Z + 2, 0, none⟩ = some (.pointer (some ⟨Z + 1, 0, none⟩)) := by
        have hX := hG.1 e7
        rw [hX]
        split
        · exact (((Below.refl _ Wa.drew).alloc (Nat.le_refl _) _).cell (p := ⟨Z + 2, 0, none⟩) (by show Z + 2 < Wa.heap.size; omega)).trans f0
        · exact f0
      exact owes_value (v := vals 0) rfl (by rfl) (by rw [hvals]; simp [execOp, go_sem, t3, cX]) rfl (hG.put (by decide) (by decide)) fun _ _ _ h => h
    | 1, _, ho, hn, haf =>
      obtain rfl := Option.some.inj ho
      have e7 : listed.getD 7 false = false := off_ofg hn fun q => (hcl 2 _ rfl (hcl 3 _ rfl (hcl 4 _ rfl (hcl 5 _ rfl (hcl 6 _ rfl (hcl 7 _ rfl q ⟨6, .data⟩ (by simp) rfl) ⟨5, .data⟩ (by simp) rfl) ⟨4, .data⟩ (by simp) rfl) ⟨3, .data⟩ (by simp) rfl) ⟨2, .data⟩ (by simp) rfl) ⟨1, .data⟩ (by simp) rfl)
      have e6 : listed.getD 6 false = false := off_ofg hn fun q => (hcl 2 _ rfl (hcl 3 _ rfl (hcl 4 _ rfl (hcl 5 _ rfl (hcl 6 _ rfl q ⟨5, .data⟩ (by simp) rfl) ⟨4, .data⟩ (by simp) rfl) ⟨3, .data⟩ (by simp) rfl) ⟨2, .data⟩ (by simp) rfl) ⟨1, .data⟩ (by simp) rfl)
      have hX := hG.1 e7
      rw [e6] at hX
      simp only [Bool.false_eq_true, if_false] at hX
      subst hX
      exact owes_value (v := vals 1) rfl (by rfl) (by rw [hvals]; simp [execOp, go_sem, t0]) rfl (hG.put (by decide) (by decide)) fun _ _ _ h => h
    | 2, _, ho, hn, haf =>
      obtain rfl := Option.some.inj ho
      have e7 : listed.getD 7 false = false := off_ofg hn fun q => (hcl 3 _ rfl (hcl 4 _ rfl (hcl 5 _ rfl (hcl 6 _ rfl (hcl 7 _ rfl q ⟨6, .data⟩ (by simp) rfl) ⟨5, .data⟩ (by simp) rfl) ⟨4, .data⟩ (by simp) rfl) ⟨3, .data⟩ (by simp) rfl) ⟨2, .data⟩ (by simp) rfl)
      have e6 : listed.getD 6 false = false := off_ofg hn fun q => (hcl 3 _ rfl (hcl 4 _ rfl (hcl 5 _ rfl (hcl 6 _ rfl q ⟨5, .data⟩ (by simp) rfl) ⟨4, .data⟩ (by simp) rfl) ⟨3, .data⟩ (by simp) rfl) ⟨2, .data⟩ (by simp) rfl)
      have hX := hG.1 e7
      rw [e6] at hX
      simp only [Bool.false_eq_true, if_false] at hX
      subst hX
      have p1 := hv 1 _ 11 rfl (haf ⟨1, .data⟩ (by simp) rfl) rfl
      rw [hvals] at p1
      exact owes_value (v := vals 2) rfl (by rfl) (by rw [hvals]; simp [execOp, go_sem, p1]) rfl (hG.put (by decide) (by decide)) fun _ _ _ h => h
    | 3, _, ho, hn, haf =>
      obtain rfl := Option.some.inj ho
      have e7 : listed.getD 7 false = false := off_ofg hn fun q => (hcl 4 _ rfl (hcl 5 _ rfl (hcl 6 _ rfl (hcl 7 _ rfl q ⟨6, .data⟩ (by simp) rfl) ⟨5, .data⟩ (by simp) rfl) ⟨4, .data⟩ (by simp) rfl) ⟨3, .data⟩ (by simp) rfl)
      have e6 : listed.getD 6 false = false := off_ofg hn fun q => (hcl 4 _ rfl (hcl 5 _ rfl (hcl 6 _ rfl q ⟨5, .data⟩ (by simp) rfl) ⟨4, .data⟩ (by simp) rfl) ⟨3, .data⟩ (by simp) rfl)
      have hX := hG.1 e7
      rw [e6] at hX
      simp only [Bool.false_eq_true, if_false] at hX
      subst hX
      have p2 := hv 2 _ 12 rfl (haf ⟨2, .data⟩ (by simp) rfl) rfl
      rw [hvals] at p2
      exact owes_value (v := vals 3) rfl (by rfl) (by rw [hvals]; simp [execOp, go_sem, p2]) rfl (hG.put (by decide) (by decide)) fun _ _ _ h => h
    | 4, _, ho, hn, haf =>
      obtain rfl := Option.some.inj ho
      have e7 : listed.getD 7 false = false := off_ofg hn fun q => (hcl 5 _ rfl (hcl 6 _ rfl (hcl 7 _ rfl q ⟨6, .data⟩ (by simp) rfl) ⟨5, .data⟩ (by simp) rfl) ⟨4, .data⟩ (by simp) rfl)
      have e6 : listed.getD 6 false = false := off_ofg hn fun q => (hcl 5 _ rfl (hcl 6 _ rfl q ⟨5, .data⟩ (by simp) rfl) ⟨4, .data⟩ (by simp) rfl)
      have hX := hG.1 e7
      rw [e6] at hX
      simp only [Bool.false_eq_true, if_false] at hX
      subst hX
      have p3 := hv 3 _ 13 rfl (haf ⟨3, .data⟩ (by simp) rfl) rfl
      rw [hvals] at p3
      have cX : Wa.drew.cell? ⟨sb, 0, none⟩ = some (.pointer (some ⟨tb, 0, none⟩)) := f1
      exact owes_value (v := vals 4) rfl (by rfl) (by rw [hvals]; simp [execOp, go_sem, p3, cX]) rfl (hG.put (by decide) (by decide)) fun _ _ _ h => h
    | 5, _, ho, hn, haf =>
      obtain rfl := Option.some.inj ho
      have e7 : listed.getD 7 false = false := off_ofg hn fun q => (hcl 6 _ rfl (hcl 7 _ rfl q ⟨6, .data⟩ (by simp) rfl) ⟨5, .data⟩ (by simp) rfl)
      have e6 : listed.getD 6 false = false := off_ofg hn fun q => (hcl 6 _ rfl q ⟨5, .data⟩ (by simp) rfl)
      have hX := hG.1 e7
      rw [e6] at hX
      simp only [Bool.false_eq_true, if_false] at hX
      subst hX
      have p4 := hv 4 _ 14 rfl (haf ⟨4, .data⟩ (by simp) rfl) rfl
      rw [hvals] at p4
      refine owes_call (R := fun e W' => e = .returned (.int .i64 (ln : Nat)) ∧ W' = Wa.drew) rfl (by rfl) (by simp [execOp, go_sem, p4]) (callsIn_wide.2 (HC.out 1)) ?_
      rintro e W' ⟨rfl, rfl⟩
      exact ⟨_, rfl, by rw [hvals]; rfl, hG.put (by decide) (by decide), fun _ _ _ h => h⟩
    | 6, _, ho, hn, haf =>
      obtain rfl := Option.some.inj ho
      have e7 : listed.getD 7 false = false := off_ofg hn fun q => (hcl 7 _ rfl q ⟨6, .data⟩ (by simp) rfl)
      have hX := hG.1 e7
      rw [getD_off hn] at hX
      simp only [Bool.false_eq_true, if_false] at hX
      subst hX
      have p5 := hv 5 _ 15 rfl (haf ⟨5, .data⟩ (by simp) rfl) rfl
      rw [hvals] at p5
      exact owes_value (v := vals 6) (W' := Wa.drew.alloc (.cells #[.int .i64 (ln : Nat)] 3)) rfl (by rfl) (by rw [hvals]; simp [execOp, go_sem, p5]) rfl (BG.six (getD_lt hn) e7) fun _ _ _ h => h
    | 7, _, ho, hn, haf =>
      obtain rfl := Option.some.inj ho
      have e6 : listed.getD 6 false = true := haf ⟨6, .data⟩ (by simp) rfl
      have hX := hG.1 (getD_off hn)
      rw [e6] at hX
      simp only [if_true] at hX
      subst hX
      have p0 := hv 0 _ 10 rfl (haf ⟨0, .data⟩ (by simp) rfl) rfl
      rw [hvals] at p0
      have p6 := hv 6 _ 16 rfl (haf ⟨6, .data⟩ (by simp) rfl) rfl
      rw [hvals] at p6
      refine owes_call (R := fun e W' => e = .returned (.int .i64 0) ∧ Hid (BWI sb tb g L Z w' (ints [(ln : Int)]) W')) rfl (by rfl) (by simp [execOp, go_sem, p0, p6]) (callsIn_wide.2 (HInt.out 1)) ?_
      rintro e W' ⟨rfl, K⟩
      refine ⟨_, rfl, by rw [hvals]; rfl, ⟨fun e => ?_, fun _ => K.out⟩, fun _ _ _ h => h⟩
      rw [getD_set, if_pos ⟨rfl, getD_lt hn⟩] at e
      cases e
  case hend =>
    intro act W hE
    have hfin := hE.glob.2 rfl
    have K3 := hidb hfin
    have hsz := hE.tsize
    have hdf := hE.defers
    have r := fun t h => hE.rest t h
    obtain ⟨tm, df⟩ := act
    simp only at hsz hdf r
    have htm := arr_out 32 tm (by rw [hsz]; rfl) undef
    simp only [List.range, List.range.loop, List.map_cons, List.map_nil] at htm
    rw [show tm[0]?.getD undef = .pointer (some ⟨sb, 0, none⟩) from r 0 (rest_of (by kernel_rfl))] at htm
    rw [show tm[3]?.getD undef = .pointer (some ⟨Z + 1 + 1, 0, none⟩) from r 3 (rest_of (by kernel_rfl))] at htm
    generalize tm[1]?.getD undef = u1 at htm
    generalize tm[2]?.getD undef = u2 at htm
    generalize tm[4]?.getD undef = u4 at htm
    generalize tm[5]?.getD undef = u5 at htm
    generalize tm[6]?.getD undef = u6 at htm
    generalize tm[7]?.getD undef = u7 at htm
    generalize tm[8]?.getD undef = u8 at htm
    generalize tm[9]?.getD undef = u9 at htm
    generalize tm[10]?.getD undef = u10 at htm
    generalize tm[11]?.getD undef = u11 at htm
    generalize tm[12]?.getD undef = u12 at htm
    generalize tm[13]?.getD undef = u13 at htm
    generalize tm[14]?.getD undef = u14 at htm
    generalize tm[15]?.getD undef = u15 at htm
    generalize tm[16]?.getD undef = u16 at htm
    generalize tm[17]?.getD undef = u17 at htm
    generalize tm[18]?.getD undef = u18 at htm
    generalize tm[19]?.getD undef = u19 at htm
    generalize tm[20]?.getD undef = u20 at htm
    generalize tm[21]?.getD undef = u21 at htm
    generalize tm[22]?.getD undef = u22 at htm
    generalize tm[23]?.getD undef = u23 at htm
    generalize tm[24]?.getD undef = u24 at htm
    generalize tm[25]?.getD undef = u25 at htm
    generalize tm[26]?.getD undef = u26 at htm
    generalize tm[27]?.getD undef = u27 at htm
    generalize tm[28]?.getD undef = u28 at htm
    generalize tm[29]?.getD undef = u29 at htm
    generalize tm[30]?.getD undef = u30 at htm
    generalize tm[31]?.getD undef = u31 at htm
    subst hdf
    rw [htm]
    clear hE htm hsz r hfin HC HInt
    have hbs : ∀ pre, pre <+: L → (ints [(ln : Int)] ++ pre.flatMap pairB).length ≤ 200000 := fun pre hp => by
      have h1 := flatB_pre hp
      have h2 := flatB_le Hsm.out
      have h3 : (ints [(ln : Int)]).length = 8 := by rw [ints_length]; rfl
      rw [List.length_append, h3]
      omega
    have Hbs := hidb hbs
    have hr := hidb (rise_call tb [] W)
    obtain ⟨g0, g1⟩ := K3.out.facts
    clear hbs
    gi_wp2_with (first
      | (refine ⟨trivial, ?_⟩; gi_at_call 43; refine (callsIn_wide.2 hr.out).mono ?_; clear hr; rintro e w2 ⟨rfl, rfl⟩)
      | fail)
    obtain ⟨We, hWe⟩ : ∃ We, We = (W.alloc (.cells #[.pointer (some ⟨tb, 0, none⟩)] 57)).alloc (.cells #[sv []] 9) := ⟨_, rfl⟩
    obtain ⟨Y, hY⟩ : ∃ Y, Y = W.heap.size := ⟨_, rfl⟩
    have hBe : Below W.heap.size W We := by rw [hWe]; exact ((Below.refl _ W).alloc (Nat.le_refl _) _).alloc (by simp) _
    have HIe : Hid (BWI sb tb g L Z w' (ints [(ln : Int)] ++ ([] : Kvs).flatMap pairB) We) := hidb (by rw [List.flatMap_nil, List.append_nil]; exact K3.out.below hBe)
    have by0 : We.heap[Y]? = some (.cells #[.pointer (some ⟨tb, 0, none⟩)] 57 (0, 0)) := by
      rw [hWe, Below.heap_alloc _ _ _ (by simp; omega), hY, heap_alloc_new]
    have by1 : We.heap[Y + 1]? = some (.cells #[sv []] 9 (0, 0)) := by
      have := heap_alloc_new (W.alloc (.cells #[.pointer (some ⟨tb, 0, none⟩)] 57)) (.cells #[sv []] 9)
      rw [World.size_alloc] at this
      rw [hWe, hY]
      exact this
    have hsze : We.heap.size = Y + 2 := by rw [hWe]; simp; omega
    have hZY : Z + 3 ≤ Y := by rw [hY]; exact K3.out.siz
    obtain ⟨lsbZ, ltbZ, lgZ⟩ := HlZ.out
    rw [← hWe, ← hY]
    clear hWe hBe hY K3 g0 g1
    refine range_feeds2 (Kp := KpS fun k => k = Y ∨ k = Y + 1 ∨ k = tb ∨ k = g) (xs := L) (encs := fun x : Bt × Bt => #[sv x.1, sv x.2]) rfl (by decide) (gf := 60) (lb := #[.pointer (some ⟨Y, 0, none⟩), .pointer (some ⟨Y + 1, 0, none⟩)]) rfl trivial (enters_of Try.func60 (by kernel_rfl) rfl)
      (fun W hW => by
        have hI := HIe.out.below hW
        have := rise_feeds 2 Y (Y + 1) tb g L [] W (by rw [hW.cell (p := ⟨Y, 0, none⟩) (by show Y < _; omega)]; exact Lib.cell_of_heap by0 0) (by rw [hW.cell (p := ⟨Y + 1, 0, none⟩) (by show Y + 1 < _; omega)]; exact Lib.cell_of_heap by1 0) hI.st.t
        rw [fromL_nil] at this
        exact this)
      (fun h k => h.trans k) (fun W l o hl k hk => World.putObj_heap_other (by rcases hk with rfl | rfl | rfl | rfl <;> omega)) (fun _ => rfl)
      (fun pre W => BWI sb tb g L Z w' (ints [(ln : Int)] ++ pre.flatMap pairB) W ∧ W.heap[Y]? = some (.cells #[.pointer (some ⟨tb, 0, none⟩)] 57 (0, 0)) ∧ W.heap[Y + 1]? = some (.cells #[sv []] 9 (0, 0))) (fun _ _ _ => False) (fun pre X Y' row h hg hrow => ⟨BWI.own (B := We.heap.size) (by omega) _ X Y' row h.1 hg hrow, (hg.block _ (heap_ltb h.2.1) fun e => by have := (hrow _ e.symm).1; omega).trans h.2.1, (hg.block _ (heap_ltb h.2.2) fun e => by have := (hrow _ e.symm).1; omega).trans h.2.2⟩) (fun c pre X Y row h _ _ => h) ⟨HIe.out, by0, by1⟩
      (fun x => { tmps := #[.pointer (some ⟨sb, 0, none⟩), u1, u2, .pointer (some ⟨Z + 1 + 1, 0, none⟩), sv x.1, sv x.2, u6, u7, u8, u9, u10, u11, u12, u13, u14, u15, u16, u17, .pointer (some ⟨sb, 0, none⟩), .pointer (some ⟨sb, 0, none⟩), .pointer (some ⟨sb, 0, none⟩), .pointer (some ⟨tb, 0, none⟩), .func (.func 60) #[] #[.pointer (some ⟨Y, 0, none⟩), .pointer (some ⟨Y + 1, 0, none⟩)], sv x.1, sv x.2, u25, u26, u27, u28, u29, u30, u31], defers := [] }) ?assign ?body ?done ?stop
    case assign =>
      intro l x W K hK
      gi_wp2
      exact hK
    case stop =>
      intro D' c pre W _ _ hf
      exact hf.elim
    case body =>
      rintro l pre x W ⟨hI, e2, e3⟩ hx
      obtain ⟨g0, g1⟩ := hI.facts
      have hxm : x ∈ L := hx.mem (by simp)
      have hxs := Hsm.out x hxm
      have hb1 := Hbs.out (pre ++ [x]) hx
      have hb2 := pairB_len x
      have HT : Hid (Calls Try.prog 49 #[.pointer (some ⟨Z + 1, 0, none⟩), .slice (some ⟨W.heap.size, 0, none⟩) 2 2] (W.alloc (.cells #[sv x.1, sv x.2] 9)) fun e w3 => e = .returned (.int .i64 0) ∧ Hid (KeepsFrom We.heap.size W w3 ∧ (KpS fun k => k = Y ∨ k = Y + 1 ∨ k = tb ∨ k = g) W w3 ∧ BWI sb tb g L Z w' (ints [(ln : Int)] ++ (pre ++ [x]).flatMap pairB) w3 ∧ w3.heap[Y]? = some (.cells #[.pointer (some ⟨tb, 0, none⟩)] 57 (0, 0)) ∧ w3.heap[Y + 1]? = some (.cells #[sv []] 9 (0, 0)))) := hidb (by
        refine (hI.text x ⟨by omega, by omega⟩ (by
          rw [List.flatMap_append, ← List.append_assoc, List.length_append, show [x].flatMap pairB = pairB x by simp] at hb1
          omega)).mono ?_
        rintro e w3 ⟨rfl, K⟩
        obtain ⟨q1, q2, v, q3, q4⟩ := K.out
        have hsz := hI.siz
        have n0 : v.ownBlock ≠ some Y := fun e => absurd (row_typed q3 e e2) (by decide)
        have n1 : v.ownBlock ≠ some (Y + 1) := fun e => absurd (row_typed q3 e e3) (by decide)
        have nl : ∀ k < Z, v.ownBlock ≠ some k := fun k hk e => by
          have := (q3.lt k e).1
          omega
        have k0 := q4 Y (heap_ltb e2) (by omega) n0
        have k1 := q4 (Y + 1) (heap_ltb e3) (by omega) n1
        refine ⟨rfl, hidb ⟨q2 _, ?_, ?_, k0.trans e2, k1.trans e3⟩⟩
        · rintro k (rfl | rfl | rfl | rfl)
          · exact k0
          · exact k1
          · exact q4 _ (by omega) (by omega) (nl _ ltbZ)
          · exact q4 _ (by omega) (by omega) (nl _ lgZ)
        · rw [List.flatMap_append, ← List.append_assoc, show [x].flatMap pairB = pairB x by simp]
          exact q1)
      clear hI e2 e3 by0 by1 hx hxm hxs hb1 hb2 HIe
      obtain ⟨xk, xv⟩ := x
      simp only at HT ⊢
      gi_wp2_with (first
        | (refine ⟨trivial, ?_⟩; gi_at_call 49; refine (CallsIn.inRound l (callsIn_wide.2 HT.out)).mono ?_; clear HT; rintro e w3 ⟨rfl, K⟩)
        | fail)
      exact K.out
    case done =>
      rintro D' W hD ⟨hI, z1, z2⟩ hK
      obtain ⟨g0, g1⟩ := hI.facts
      obtain ⟨v, v1, v2⟩ := hI.wr
      have hlen := Hbs.out L (List.prefix_refl L)
      have HB := hidb (bytes_any (Z + 1) Z (Z + 3) v _ W v1 v2 (by omega))
      have HE : Hid (∀ w2 q, q = W.heap.size → OwnB w2 W.heap.size (.slice (some ⟨q, 0, none⟩) (ints [(ln : Int)] ++ L.flatMap pairB).length (ints [(ln : Int)] ++ L.flatMap pairB).length) (ints [(ln : Int)] ++ L.flatMap pairB) → Below W.heap.size W w2 → w2.heap[D']? = some (.deferred (some [])) ∧ BytE (stB L) w' (.returned (.slice (some ⟨q, 0, none⟩) (ints [(ln : Int)] ++ L.flatMap pairB).length (ints [(ln : Int)] ++ L.flatMap pairB).length)) (w2.putObj D' (.deferred none))) := hidb fun w2 q hq ho hb => by
        have hx : w2.heap[D']? = some (.deferred (some [])) := (hb.block _ (heap_ltb hK)).trans hK
        have hsz := hI.siz
        have hz := HZ0.out
        refine ⟨hx, q, ?_, ?_, ?_⟩
        · unfold stB
          rw [Hln.out]
        · have : stB L = ints [(ln : Int)] ++ L.flatMap pairB := by unfold stB; rw [Hln.out]
          rw [this]
          refine Own.mono (Own.kept ho (grownBy_putObj' w2 D' (.deferred none)) (.inr fun e => ?_)) fun k e => ?_
          · simp [Value.ownBlock] at e
            have := heap_ltb hK
            omega
          · simp [Value.ownBlock] at e
            omega
        · rw [← hz]
          refine (hI.bel.trans (hb.mono (by omega))).grown (grownBy_putObj' w2 D' (.deferred none)) (by have := hb.size; omega) fun j ej => ?_
          cases ej
          omega
      clear hI z1 z2 by0 by1 HIe v1 v2 hK hlen
      generalize ints [(ln : Int)] ++ L.flatMap pairB = XX at HB HE
      gi_wp2_with (first
        | (refine ⟨trivial, ?_⟩; gi_at_call 50; refine (callsIn_wide.2 HB.out).mono ?_; clear HB; rintro e w2 ⟨rfl, ho, hb⟩)
        | fail)
      obtain ⟨x1, hend⟩ := HE.out w2 _ rfl ho hb
      refine ⟨by simp, .inl ⟨_, _, rfl, run_takeDeferred x1, ?_⟩⟩
      refine ⟨_, ?_, hend⟩
      exact results_tmpK rfl _ _ _ _ rfl
end Go.Proofs.Ytcjakgogdbfagaa
