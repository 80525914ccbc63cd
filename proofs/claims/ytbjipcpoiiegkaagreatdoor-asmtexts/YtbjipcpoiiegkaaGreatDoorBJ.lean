/- The document's Parse. -/
import Derived.Test.YtbjipcpoiiegkaaGreatDoorBI
import Derived.Test.YtbjipcpoiiegkaaGreatDoorLBk5
namespace Go.Proofs.YtbjipcpoiiegkaaGreatDoor
open Go.RowKit Go.Shelf
theorem no_drop {t : List UInt8} {fr i : Nat} (h : No 10 ((t.drop fr).take (i - fr))) (hf : fr ≤ i) (hi : i < t.length) (hc : t[i] ≠ 10) : No 10 ((t.drop fr).take (i + 1 - fr)) := by
  have e : i + 1 - fr = (i - fr) + 1 := by omega
  rw [e, List.take_succ_eq_append_getElem (by simp; omega)]
  refine h.app ?_
  intro x hx
  obtain rfl : x = t[i] := by
    have : (t.drop fr)[i - fr]'(by simp; omega) = t[i] := by
      rw [List.getElem_drop]
      congr 1
      omega
    simpa [this] using hx
  exact hc
theorem drop_at {t : List UInt8} {fr i : Nat} (hf : fr ≤ i) (hi : i < t.length) (hc : t[i] = 10) : t.drop fr = (t.drop fr).take (i - fr) ++ 10 :: t.drop (i + 1) := by
  have h1 : (t.drop fr).drop (i - fr) = 10 :: t.drop (i + 1) := by
    rw [List.drop_drop, show fr + (i - fr) = i by omega, List.drop_eq_getElem_cons hi, hc]
  rw [← h1, List.take_append_drop]
theorem ext_cut (t : List UInt8) (fr i : Nat) : (⟨t.toArray⟩ : ByteArray).extract fr i = ⟨((t.drop fr).take (i - fr)).toArray⟩ := by
  apply ByteArray.ext
  rw [ByteArray.data_extract]
  simp only [List.extract_toArray, List.extract_eq_take_drop]
/-- Where the document's Parse stands. -/
structure PSt5 (w : World) (t : List UInt8) (r0 : Scr × Int) (fr k i : Nat) (wr : World) : Prop where
  fi : fr ≤ i
  il : i ≤ t.length
  no : No 10 ((t.drop fr).take (i - fr))
  kn : k + (t.length - fr) ≤ 65537
  k1 : 1 ≤ k
  st : ∃ (n : Nat) (cs : List (List UInt8)) (L : List (Fn × FV)) (v0 v1 : Value), t.length - fr ≤ n ∧ Few k cs L ∧ r0 = rlRun n k ⟨cs, L.map (·.1)⟩ (t.drop fr) ∧ RL (w.heap.size + 1) cs L v0 v1 wr
  bx : wr.heap[w.heap.size]? = some (.cells #[.slice none 0 0, .slice none 0 0] 39 (0, 0))
  b : Below w.heap.size w wr
set_option maxRecDepth 100000 in
set_option maxHeartbeats 4000000 in
theorem rparse5_small (t : List UInt8) (ht : t.length ≤ 65536) (w : World) : Calls Tryz.prog 20 #[.string ⟨t.toArray⟩] w (ScrEnd (parseS t) w) := by
  have ht' : ¬ (65536 : Int) < (t.length : Int) := by omega
  have HR : Hid (∀ r, linesS t = r → parseS t = if r.2 = 0 ∧ r.1.right = false then (noScr, -2) else r) := hid (fun r h => by unfold parseS parseR; rw [if_neg (by omega), h])
  have HF := hid (linesS_fit ht)
  have HN : Hid (NumsOk (linesS t).1) := hid (nums_run _ _ _ _ (by omega) (fun f hf => by cases hf))
  generalize parseS t = rp at HR ⊢
  obtain ⟨r0, hr0⟩ : ∃ r0, r0 = linesS t := ⟨_, rfl⟩
  rw [← hr0] at HF HN
  have HP : Hid (rp = if r0.2 = 0 ∧ r0.1.right = false then (noScr, -2) else r0) := hid (HR.out r0 hr0.symm)
  clear HR
  have bA := heap_alloc_new w (.cells #[.slice none 0 0, .slice none 0 0] 39)
  have hN := RL.new (w.alloc (.cells #[.slice none 0 0, .slice none 0 0] 39))
  have hb1 : Below w.heap.size w ((w.alloc (.cells #[.slice none 0 0, .slice none 0 0] 39)).alloc (.cells #[.slice none 0 0, .slice none 0 0] 39)) := ((Below.refl _ w).alloc (Nat.le_refl _) _).alloc (by simp) _
  have b1 : ((w.alloc (.cells #[.slice none 0 0, .slice none 0 0] 39)).alloc (.cells #[.slice none 0 0, .slice none 0 0] 39)).heap[w.heap.size]? = some (.cells #[.slice none 0 0, .slice none 0 0] 39 (0, 0)) := (Below.heap_alloc _ _ _ (lt_of_block bA)).trans bA
  rw [World.size_alloc] at hN
  go_enter Tryz.func20, Tryz.ntmps20
  go_wp2_with fail
  go_loopw [5, 6, 7] (fun f n i wr => ∃ fr k iN : Nat, f = .int .i64 fr ∧ n = .int .i64 k ∧ i = .int .i64 iN ∧ PSt5 w t r0 fr k iN wr) (fun _ _ i _ => t.length - (intOf i).toNat)
  case atStart => exact ⟨0, 1, 0, rfl, rfl, rfl, ⟨Nat.le_refl _, Nat.zero_le _, fun x hx => (by simp at hx), by omega, Nat.le_refl _, ⟨t.length, [], [], _, _, by omega, ⟨by simp, by simp, fun x hx => (by cases hx)⟩, by rw [hr0]; rfl, hN⟩, b1, hb1⟩⟩
  case round =>
    clear hN b1 hb1 bA
    obtain ⟨fr, k, i, rfl, rfl, rfl, P⟩ := hrel
    have hfi := P.fi
    have hil := P.il
    have hkn := P.kn
    have hk1 := P.k1
    by_cases hlt : i < t.length
    · have hlt' : (i : Int) < (t.length : Int) := by omega
      have e0 : (⟨t.toArray⟩ : ByteArray)[i]'(by show i < t.toArray.size; simpa using hlt) = t[i] := by simp [ByteArray.getElem_eq_getElem_data]
      by_cases hc : t[i] = 10
      · obtain ⟨n, cs, L, v0, v1, hn, few, hrun, R⟩ := P.st
        have HD := hid (drop_at hfi hlt hc)
        have HNo := hid P.no
        have hx := ext_cut t fr i
        have hll : ((t.drop fr).take (i - fr)).length ≤ 65536 := by simp; omega
        obtain ⟨n', rfl⟩ : ∃ n', n = n' + 1 := ⟨n - 1, by omega⟩
        have HU : Hid (r0 = match rlStep ⟨cs, L.map (·.1)⟩ ((t.drop fr).take (i - fr)) with | none => (noScr, (k : Int)) | some S' => rlRun n' (k + 1) S' (t.drop (i + 1))) := hid (by
          rw [hrun, rlRun, if_neg (by rw [HD.out]; simp)]
          have hcut : cutAt (t.drop fr) 10 = ((t.drop fr).take (i - fr), t.drop (i + 1), true) := by
            conv => lhs; rw [HD.out]
            exact cut_app HNo.out
          rw [hcut, if_neg (by simp)]
          rfl)
        have hAdd := radd_any (w.heap.size + 1) k (by omega) ((t.drop fr).take (i - fr)) (by omega) cs L v0 v1 wr R few
        rw [addS_same] at hAdd
        have hcn : (t[i].toNat : Int) = 10 := by rw [hc]; rfl
        have hbx := P.bx
        have hB := P.b
        obtain ⟨p0, p1, z0, z1⟩ := cells2 hbx
        clear hrun HD HNo P hc
        generalize t[i] = c at e0 hcn
        generalize (t.drop fr).take (i - fr) = line at hx hll HU hAdd
        cases hs : rlStep ⟨cs, L.map (·.1)⟩ line with
        | none =>
          rw [hs] at HU hAdd
          have HE : Hid (rp = (noScr, (k : Int))) := hid (by rw [HP.out, HU.out, if_neg (fun q => by have := q.1; simp only at this; omega)])
          go_wp2_with (first
            | (go_at_call 45; refine hAdd.mono ?_; rintro e w5 ⟨rfl, hb5, _⟩; clear hAdd; simp only [Option.isSome_none]; have bx5 := (hb5.block _ (Nat.lt_succ_self _)).trans hbx; have hB5 := hB.trans (hb5.mono (Nat.le_succ _)); obtain ⟨q0, q1, q2, q3⟩ := cells2 bx5)
            | fail)
          exact bad_end bx5 hB5 rfl rfl rfl rfl HE.out
        | some S' =>
          rw [hs] at HU hAdd
          go_wp2_with (first
            | (go_at_call 45; refine hAdd.mono ?_; rintro e w5 ⟨rfl, hb5, hE5⟩; clear hAdd; simp only [Option.isSome_some]; have bx5 := (hb5.block _ (Nat.lt_succ_self _)).trans hbx; have hB5 := hB.trans (hb5.mono (Nat.le_succ _)))
            | fail)
          obtain ⟨cs', L', u0, u1, hS', R', few'⟩ := hE5 S' rfl
          subst hS'
          exact ⟨⟨i + 1, k + 1, i + 1, by go_num, by go_num, by go_num, ⟨Nat.le_refl _, by omega, fun x hx => (by simp at hx), by omega, by omega, ⟨n', cs', L', u0, u1, by omega, few', HU.out, R'⟩, bx5, hB5⟩⟩, by simp [intOf]; omega⟩
      · have HP2 : Hid (PSt5 w t r0 fr k (i + 1) wr) := hid ⟨by omega, by omega, no_drop P.no hfi hlt hc, hkn, hk1, P.st, P.bx, P.b⟩
        have hcn : ((t[i].toNat : Int) == 10) = false := by
          have : t[i].toNat ≠ 10 := fun h => hc (UInt8.toNat_inj.1 h)
          simp
          omega
        clear P hc
        generalize t[i] = c at e0 hcn
        go_wp2_with fail
        exact ⟨⟨fr, k, i + 1, rfl, rfl, by go_num, HP2.out⟩, by simp [intOf]; omega⟩
    · obtain rfl : i = t.length := by omega
      obtain ⟨n, cs, L, v0, v1, hn, few, hrun, R⟩ := P.st
      have hbx := P.bx
      have hB := P.b
      obtain ⟨p0, p1, z0, z1⟩ := cells2 hbx
      by_cases hfr : fr < t.length
      · have hfr' : (fr : Int) < (t.length : Int) := by omega
        have HE : Hid (rp = (noScr, (k : Int))) := hid (by
          have hno := P.no
          rw [List.take_of_length_le (by simp)] at hno
          obtain ⟨n', rfl⟩ : ∃ n', n = n' + 1 := ⟨n - 1, by omega⟩
          have hne : t.drop fr ≠ [] := fun e => by
            have := congrArg List.length e
            simp at this
            omega
          have hr : r0 = (noScr, (k : Int)) := by rw [hrun, rlRun, if_neg hne, cut_no hno, if_pos rfl]
          rw [HP.out, hr, if_neg (fun q => by have := q.1; simp only at this; omega)])
        clear hrun P HP
        go_wp2_with fail
        exact bad_end hbx hB rfl rfl rfl rfl HE.out
      · obtain rfl : fr = t.length := by omega
        have hr : r0 = (⟨cs, L.map (·.1)⟩, 0) := by rw [hrun, List.drop_of_length_le (Nat.le_refl _), rlRun_nil]
        rw [hr] at HF HN HP
        have hS := R.is
        have hfits : Scr.fits ⟨cs, L.map (·.1)⟩ := HF.out.fits (Nat.le_refl _)
        have hnum : ∀ f ∈ (⟨cs, L.map (·.1)⟩ : Scr).funcs, ∀ x ∈ f.code, -9223372036854775808 ≤ x.2 ∧ x.2 ≤ 9223372036854775807 := HN.out
        have hRt := rright4_any (⟨cs, L.map (·.1)⟩ : Scr) v0 v1 wr (hS.keep upF_all) hfits hnum
        have hRb := R.box
        obtain ⟨x0, x1, _, _⟩ := cells2 hRb
        obtain ⟨a0, c0, e0, _⟩ := row_form R.rc
        obtain ⟨a1, c1, e1, _⟩ := row_form R.rf
        subst e0 e1
        clear hrun P hr few
        cases hR : Scr.right ⟨cs, L.map (·.1)⟩ with
        | false =>
          rw [hR] at hRt
          have HE : Hid (rp = (noScr, -2)) := hid (by rw [HP.out, if_pos ⟨rfl, hR⟩])
          go_wp2_with (first
            | (go_at_call 23; refine hRt.mono ?_; rintro e w5 ⟨rfl, hb5⟩; clear hRt; have bx5 := (hb5.block _ (lt_of_block hbx)).trans hbx; have hB5 := hB.trans (hb5.mono hB.size); obtain ⟨q0, q1, q2, q3⟩ := cells2 bx5)
            | fail)
          exact bad_end bx5 hB5 rfl rfl rfl rfl HE.out
        | true =>
          rw [hR] at hRt
          have HE : Hid (rp = (⟨cs, L.map (·.1)⟩, 0)) := hid (by rw [HP.out, if_neg (by simp [hR])])
          go_wp2_with (first
            | (go_at_call 23; refine hRt.mono ?_; rintro e w5 ⟨rfl, hb5⟩; clear hRt; have bx5 := (hb5.block _ (lt_of_block hbx)).trans hbx; have hB5 := hB.trans (hb5.mono hB.size); obtain ⟨q0, q1, q2, q3⟩ := cells2 bx5; obtain ⟨y0, y1, _, _⟩ := cells2 ((hb5.block _ (lt_of_block hRb)).trans hRb))
            | fail)
          refine ret_scr5 (v0 := .slice a0 cs.length c0) (v1 := .slice a1 L.length c1) (s := ⟨cs, L.map (·.1)⟩) (by simp [World.setCell, Array.getElem?_modify, bx5]) ((hB5.setCell (p := ⟨w.heap.size, 0, none⟩) (Nat.le_refl _) _).setCell (p := ⟨w.heap.size, 1, none⟩) (Nat.le_refl _) _) rfl rfl rfl rfl ?_ _ HE.out
          exact hS.keep (upF_keep (by omega) fun x v hx hc => by rw [cell_other (by show x.block ≠ w.heap.size; omega), cell_other (by show x.block ≠ w.heap.size; omega)]; exact below_keep hb5 _ _ hc)
set_option maxRecDepth 100000 in
set_option maxHeartbeats 1000000 in
theorem rparse5_big (t : List UInt8) (hl : 65536 < t.length) (ht : t.length ≤ 9223372036854775807) (w : World) : Calls Tryz.prog 20 #[.string ⟨t.toArray⟩] w (ScrEnd (parseS t) w) := by
  have hb1 : Below w.heap.size w (w.alloc (.cells #[.slice none 0 0, .slice none 0 0] 39)) := (Below.refl _ w).alloc (Nat.le_refl _) _
  have bA := heap_alloc_new w (.cells #[.slice none 0 0, .slice none 0 0] 39)
  have hl' : (65536 : Int) < (t.length : Int) := by omega
  have H1 : Hid (parseS t = (noScr, -1)) := hid (if_pos hl)
  clear hl
  go_enter Tryz.func20, Tryz.ntmps20
  go_wp2_with fail
  exact ret_scr5 bA hb1 rfl rfl rfl rfl (noScr_is _) _ H1.out
theorem rparse5_every (t : List UInt8) (ht : t.length ≤ 9223372036854775807) (w : World) : Calls Tryz.prog 20 #[.string ⟨t.toArray⟩] w (ScrEnd (parseS t) w) := by
  by_cases h : t.length ≤ 65536
  · exact rparse5_small t h w
  · exact rparse5_big t (by omega) ht w
end Go.Proofs.YtbjipcpoiiegkaaGreatDoor
