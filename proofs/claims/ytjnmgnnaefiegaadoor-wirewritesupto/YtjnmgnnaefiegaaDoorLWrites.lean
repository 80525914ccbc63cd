/- The law WireWrites, walked. -/
import Derived.Test.YtjnmgnnaefiegaaDoorRW
import Derived.Test.YtjnmgnnaefiegaaDoorB8
import Derived.Test.YtjnmgnnaefiegaaDoorLRow
import Derived.Deep.QuietTactic
namespace Go.Proofs.YtjnmgnnaefiegaaDoor
open Go.RowKit

/-- Both writers: wire's at the two blocks behind w, ref's at the next; what each has written. -/
structure Both (w wr : World) (v vr : Value) (xs ys : List UInt8) : Prop where
  H : WrE wr (w.heap.size + 1) w.heap.size v 0
  hO : OwnB wr (w.heap.size + 3) v xs
  R : RwE wr (w.heap.size + 2) vr
  rO : OwnB wr (w.heap.size + 3) vr ys
  ne : ∀ g, v.ownBlock = some g → vr.ownBlock ≠ some g
  hb : Below w.heap.size w wr
  hz : w.heap.size + 3 ≤ wr.heap.size
theorem WSet.ge {h g : Nat} {v : Value} {w : World} {base : Nat} {xs : List UInt8} (hO : OwnB w base v xs) (e : WSet h v g) : g = h ∨ base ≤ g := by
  rcases e with e | e
  · exact .inl e
  · exact .inr (hO.lt g e).1
theorem Told.chg {p h base : Nat} {v : Value} {out : Int × List UInt8} {w : World} {e : Ending} {w' : World} (T : Told p h base v out w e w') : Chg w w' (WSet h v) := by
  obtain ⟨_, _, _, _, hs⟩ := T
  exact hs.1
theorem Both.told {w wr : World} {v vr : Value} {xs ys : List UInt8} {out : Int × List UInt8} {e : Ending} {w' : World} (B : Both w wr v vr xs ys) (T : Told (w.heap.size + 1) w.heap.size (w.heap.size + 3) v out wr e w') : ∃ v', e = .returned (.int .i64 out.1) ∧ Both w w' v' vr out.2 ys := by
  obtain ⟨v', he, H', O', hs⟩ := T
  refine ⟨v', he, H', O', B.R.chg hs.1 (fun e => ?_), Own.chg B.rO hs.1 (fun g hg e => ?_), fun g hg => ?_, B.hb.trans (hs.1.below B.hb.size (fun i e => ?_)), Nat.le_trans B.hz hs.1.size⟩
  · rcases e with e | e
    · omega
    · exact B.R.apart B.hO e
  · rcases e with e | e
    · have := (B.rO.lt g hg).1; omega
    · exact B.ne g e hg
  · rcases hs.2 with e | ⟨g', e, hg'⟩
    · rw [e] at hg; exact B.ne g hg
    · rw [e] at hg
      cases hg
      intro h'
      have := (B.rO.lt _ h').2
      omega
  · rcases WSet.ge B.hO e with e | e <;> omega
theorem Both.rtold {w wr : World} {v vr : Value} {xs ys : List UInt8} {out : Int × List UInt8} {e : Ending} {w' : World} (B : Both w wr v vr xs ys) (T : RTold (w.heap.size + 2) (w.heap.size + 3) vr out wr e w') : ∃ vr', e = .returned (.int .i64 out.1) ∧ Both w w' v vr' xs out.2 := by
  obtain ⟨v', he, H', O', hs⟩ := T
  refine ⟨v', he, B.H.chg hs.1 (fun e => ?_) (fun e => ?_), Own.chg B.hO hs.1 (fun g hg e => ?_), H', O', fun g hg => ?_, B.hb.trans (hs.1.below B.hb.size (fun i e => ?_)), Nat.le_trans B.hz hs.1.size⟩
  · rcases e with e | e
    · omega
    · exact (B.H.apart B.rO).1 e
  · rcases e with e | e
    · omega
    · exact (B.H.apart B.rO).2 e
  · rcases e with e | e
    · have := (B.hO.lt g hg).1; omega
    · exact B.ne g hg e
  · rcases hs.2 with e | ⟨g', e, hg'⟩
    · rw [e]; exact B.ne g hg
    · rw [e]
      intro h'
      cases h'
      have := (B.hO.lt _ hg).2
      omega
  · rcases WSet.ge B.rO e with e | e <;> omega
theorem Both.chg {w wr w' : World} {v vr : Value} {xs ys : List UInt8} {S : Nat → Prop} (B : Both w wr v vr xs ys) (hc : Chg wr w' S) (hS : ∀ i, i < wr.heap.size → ¬ S i) : Both w w' v vr xs ys :=
  ⟨B.H.chg hc (hS _ (lt_of_block B.H.hp)) (hS _ (lt_of_block B.H.hh)), Own.chg B.hO hc (fun g hg => hS g (B.hO.lt g hg).2), B.R.chg hc (hS _ (lt_of_block B.R.hq)), Own.chg B.rO hc (fun g hg => hS g (B.rO.lt g hg).2), B.ne,
    B.hb.trans (Chg.below (S := fun i => wr.heap.size ≤ i) (hc.mono (fun i hi e => absurd e (hS i hi))) B.hb.size (fun _ e => Nat.le_trans B.hb.size e)), Nat.le_trans B.hz hc.size⟩

/-- A call of the law's list, where it lies. -/
def PutAt (w : World) (b o : Nat) (x : Int × List Int × List (List UInt8)) : Prop :=
  w.cell? ⟨b, o, none⟩ = some (.int .i64 x.1) ∧ (∃ a c, w.cell? ⟨b, o + 1, none⟩ = some (.slice a x.2.1.length c) ∧ Is w a x.2.1) ∧ (∃ a c, w.cell? ⟨b, o + 2, none⟩ = some (.slice a x.2.2.length c) ∧ Ss w a x.2.2)
def Puts (w : World) (ao : Option Addr) (L : List (Int × List Int × List (List UInt8))) : Prop :=
  L = [] ∨ ∃ b off, ao = some ⟨b, off, none⟩ ∧ ∀ j (h : j < L.length), PutAt w b (off + j * 3) L[j]
theorem PutAt.keep {w w' : World} {b o : Nat} {x : Int × List Int × List (List UInt8)} (h : PutAt w b o x) (hk : ∀ a v, w.cell? a = some v → w'.cell? a = some v) : PutAt w' b o x := by
  obtain ⟨h1, ⟨a, c, h2, h3⟩, ⟨a', c', h4, h5⟩⟩ := h
  exact ⟨hk _ _ h1, ⟨a, c, hk _ _ h2, h3.keep hk⟩, ⟨a', c', hk _ _ h4, h5.keep hk⟩⟩

theorem elem_int : Elem Tryd.prog 30 3 8 := by
  refine ⟨Tryd.underlying30, ?_⟩
  obtain ⟨i0, hi, hz0, hz1, hz2⟩ := info_parts (show (Tryd.prog.info? 3).map (fun i => (i.zero, i.size, i.bytes)) = some (some (.int .i64 0), 1, 8) by kernel_rfl)
  exact ⟨i0, _, hi, hz0, hz1, hz2, rfl⟩
theorem elem_strW : Elem Tryd.prog 31 9 16 := by
  refine ⟨Tryd.underlying31, ?_⟩
  obtain ⟨i0, hi, hz0, hz1, hz2⟩ := info_parts (show (Tryd.prog.info? 9).map (fun i => (i.zero, i.size, i.bytes)) = some (some (.string ⟨#[]⟩), 1, 16) by kernel_rfl)
  exact ⟨i0, _, hi, hz0, hz1, hz2, rfl⟩
abbrev iv (n : Int) : Value := .int .i64 n
abbrev tv (s : List UInt8) : Value := .string ⟨s.toArray⟩
theorem src_any {α : Type} {P : Program} (w : World) {tx e' : TypeId} (hk : P.underlying tx = some (.slice e')) {ao : Option Addr} (f : α → Value) (h1 : ∀ x, (f x).oneCell' = true) {l : List α} (hb : l = [] ∨ ∃ b off, ao = some ⟨b, off, none⟩ ∧ ∀ j (h : j < l.length), w.cell? ⟨b, off + j, none⟩ = some (f l[j])) (c : Nat) : Src P 1 tx (.slice ao l.length c) (l.map f).length (l.map f) w := by
  rw [List.length_map]
  rcases hb with rfl | ⟨b, off, rfl, hc⟩
  · cases ao with
    | none => exact Src.ofNil w hk c
    | some a => exact Src.ofSlice w hk a 0 c [] rfl (fun j u h => by simp at h) (fun u h => by cases h)
  · refine Src.ofSlice w hk _ _ c _ (by simp) (fun j u hu => ?_) (fun u hu => ?_)
    · have hadd : (⟨b, off, none⟩ : Addr).add j = ⟨b, off + j, none⟩ := by unfold Addr.add; split <;> simp_all
      rw [hadd]
      rw [List.getElem?_map] at hu
      obtain ⟨x, hx, rfl⟩ := Option.map_eq_some_iff.1 hu
      obtain ⟨hj, rfl⟩ := List.getElem?_eq_some_iff.1 hx
      exact hc j hj
    · obtain ⟨x, _, rfl⟩ := List.mem_map.1 hu; exact h1 x
/-- What lies in a row of one's own. -/
theorem Own.any {α : Type} {w : World} {base : Nat} {e : TypeId} {v : Value} (f : α → Value) {l : List α} (h : Own w base e v (l.map f)) : ∃ ao cap, v = .slice ao l.length cap ∧ v.ownBlock = ao.map (·.block) ∧ (l = [] ∨ ∃ b off, ao = some ⟨b, off, none⟩ ∧ ∀ j (h : j < l.length), w.cell? ⟨b, off + j, none⟩ = some (f l[j])) := by
  obtain ⟨ao, cap, hv, h1, h2, h3, h4, h5⟩ := h.form
  rw [List.length_map] at hv h1
  refine ⟨ao, cap, hv, h3, ?_⟩
  cases ao with
  | none => left; have := h4 rfl; exact List.eq_nil_of_length_eq_zero (by omega)
  | some b =>
    obtain ⟨g, rfl, hc⟩ := h5 b rfl
    refine .inr ⟨g, 0, rfl, fun j hj => ?_⟩
    rw [Nat.zero_add]
    exact hc j _ (by simp [List.getElem?_eq_getElem hj])
theorem any_chg {α : Type} {w w' : World} {ao : Option Addr} (f : α → Value) {l : List α} {S : Nat → Prop} (h : l = [] ∨ ∃ b off, ao = some ⟨b, off, none⟩ ∧ ∀ j (h : j < l.length), w.cell? ⟨b, off + j, none⟩ = some (f l[j])) (k : Chg w w' S) (hS : ∀ g, ao.map (·.block) = some g → ¬ S g) : l = [] ∨ ∃ b off, ao = some ⟨b, off, none⟩ ∧ ∀ j (h : j < l.length), w'.cell? ⟨b, off + j, none⟩ = some (f l[j]) := by
  rcases h with h | ⟨b, off, rfl, hc⟩
  · exact .inl h
  · exact .inr ⟨b, off, rfl, fun j hj => k.cell (hc j hj) (hS b rfl)⟩

set_option maxHeartbeats 8000000 in
set_option maxRecDepth 100000 in
theorem wireWrites_walk (ao : Option Addr) (n cap : Nat) (L : List (Int × List Int × List (List UInt8))) (w : World) (hn : L.length = n) (hm : n ≤ 1048576) (hP : Puts w ao L)
    (hr : ∀ j (h : j < L.length), L[j].2.1.length ≤ 1048576 ∧ L[j].2.2.length ≤ 1048576 ∧ ∀ i (h' : i < L[j].2.2.length), (L[j].2.2[i]).length ≤ 9223372036854775807) (ht : Tab w) :
    Calls Tryd.prog 3 #[.slice ao n cap] w fun e w' => e = .returned (.bool true) ∧ Below w.heap.size w w' := by
  go_enter Tryd.func3, Tryd.ntmps3
  go_wp2_with fail
  refine (newWriter_any w).mono ?_
  rintro e w1 ⟨rfl, hw1⟩
  have H1 := newWriter_wr w
  rw [← hw1] at H1
  have hz1 : w1.heap.size = w.heap.size + 2 := by rw [hw1]; simp
  have hb1 : Below w.heap.size w w1 := by rw [hw1]; exact ((Below.refl _ _).alloc (Nat.le_refl _) _).alloc (by simp) _
  clear hw1
  have B1 : Both w (w1.alloc (.cells #[.slice none 0 0] 28)) (.slice none 0 0) (.slice none 0 0) [] [] := by
    refine ⟨H1.chg (Chg.alloc w1 _ (fun _ => False)) id id, Own.nil _ _ _, ⟨?_⟩, Own.nil _ _ _, (fun g h => by cases h), hb1.alloc hb1.size _, by simp; omega⟩
    rw [← hz1]
    exact heap_alloc_new w1 _
  go_wp2_with fail
  refine (knows_any _ (ht.keep (below_keep B1.hb))).mono ?_
  rintro e w3 ⟨rfl, hb3⟩
  have B3 : Both w w3 (.slice none 0 0) (.slice none 0 0) [] [] := B1.chg (Chg.of_below (S := fun _ => False) hb3) (fun _ _ e => e)
  clear hb3 B1 H1 hz1 hb1
  go_wp2
  go_loopw [5] (fun i wr => ∃ (k : Nat) (v vr : Value) (xs : List UInt8), k ≤ n ∧ i = .int .i64 k ∧ Both w wr v vr xs xs ∧ xs.length ≤ 1048576) (fun i _ => n - (intOf i).toNat)
  case atStart => exact ⟨0, _, _, [], Nat.zero_le _, rfl, B3, by decide⟩
  case round =>
    clear B3
    obtain ⟨k, v, vr, xs, hk, rfl, B, hxs⟩ := hrel
    by_cases hlt : k < n
    · obtain ⟨b, off, rfl, hp⟩ : ∃ b off, ao = some ⟨b, off, none⟩ ∧ PutAt w b (off + k * 3) (L[k]'(by omega)) := by
        rcases hP with h0 | ⟨b, off, h1, h2⟩
        · subst h0; simp at hn; omega
        · exact ⟨b, off, h1, h2 k (by omega)⟩
      obtain ⟨hr1, hr2, hr3⟩ := hr k (by omega)
      obtain ⟨hc0w, ⟨a1, c1, hc1w, hIo⟩, ⟨a2, c2, hc2w, hSo⟩⟩ := hp
      generalize (L[k]'(by omega)).2.1 = ns at *
      generalize (L[k]'(by omega)).2.2 = ss at *
      generalize (L[k]'(by omega)).1 = K at *
      have hc0 := below_keep B.hb _ _ hc0w
      have hc1 := below_keep B.hb _ _ hc1w
      have hc2 := below_keep B.hb _ _ hc2w
      have hI := hIo.keep (below_keep B.hb)
      have hS := hSo.keep (below_keep B.hb)
      by_cases h0 : K = 0
      · subst h0
        clear hS hc2 hr2 hr3 hP hr hSo
        have hOe : Own (wr.drew.alloc (.cells #[] 3)) wr.heap.size 3 (.slice (some ⟨wr.heap.size, 0, none⟩) 0 0) [] := World.ownsRow_lit wr.drew #[] 0 (Nat.le_refl _) (Nat.zero_le _) rfl
        have hbe : Below wr.heap.size wr (wr.drew.alloc (.cells #[] 3)) := (Below.refl wr.heap.size wr).drew.alloc (Nat.le_refl _) _
        have hSe := src_any (P := Tryd.prog) (wr.drew.alloc (.cells #[] 3)) Tryd.underlying30 (ao := a1) iv (fun _ => rfl) (l := ns) (hI.keep (below_keep hbe)) c1
        have hke := below_keep hbe _ _ hc1
        have hz := B.hz
        have hbw : b < w.heap.size := World.block_lt_of_cell? _ _ hc1w
        have hbw2 : b < wr.heap.size := by omega
        go_wp2
        go_region_law (first
          | (refine step_app _ (by rfl) (.tmp 50) (.tmp 55) _ _ (by rfl) elem_int wr.heap.size (.slice (some ⟨wr.heap.size, 0, none⟩) 0 0) [] (by rfl) (by exact hOe) _ (by rfl) (ns.map iv) (by exact hSe) (by simp only [List.length_map, List.length_nil]; unfold maxLen; omega) (by simp only [List.length_map, List.length_nil]; omega) (by simp) ?_
             intro v3 w3 hO3 hs3
             have hb3 : Below wr.heap.size wr w3 := hbe.trans (hs3.below (by simp) (fun k h => (hOe.lt k h).1))
             have B3 := B.chg (Chg.of_below (S := fun _ => False) hb3) (fun _ _ e => e)
             have hlt3 := hO3.lt
             obtain ⟨a3, c3, hv3, hbk3, hI3⟩ := Own.any iv hO3
             subst hv3
             have hk3 := below_keep hb3 _ _ hc1
             have hIw := fun w' (hc : Chg w3 w' (WSet w.heap.size v)) => any_chg iv hI3 hc (fun g hg e => by have h1 := (hlt3 g (by rw [hbk3]; exact hg)).1; rcases e with e | e; omega; have := (B.hO.lt g e).2; omega)
             have hnot : ¬ WSet w.heap.size v b := fun e => by rcases WSet.ge B3.hO e with e | e <;> omega
             clear hO3 hs3 hlt3 hbk3)
          | (refine step_call (by rfl) 12 _ _ (by rfl) (Go.Proofs.enters_of Tryd.func12 (by kernel_rfl) rfl) #[.pointer (some ⟨w.heap.size + 1, 0, none⟩), .slice a3 ns.length c3] (by rfl) (Told (w.heap.size + 1) w.heap.size (w.heap.size + 3) v (byteOut ns xs) w3) ?_ ?_
             · exact wbyte_all (w.heap.size + 1) w.heap.size (w.heap.size + 3) v xs a3 ns.length c3 ns w3 B3.H B3.hO B3.hz hxs rfl hIw (by omega)
             intro e w4 T
             obtain ⟨v4, rfl, B4⟩ := B3.told T
             have hk4 := T.chg.cell hk3 hnot
             clear T
             refine ⟨_, rfl, ?_⟩)
          | (refine step_call (by rfl) 11 _ _ (by rfl) (Go.Proofs.enters_of Tryd.func11 (by kernel_rfl) rfl) #[.int .i64 (byteOut ns xs).1] (by rfl) (fun e w' => e = .returned (.int .i64 (byteOut ns xs).1) ∧ w' = w4) ?_ ?_
             · exact num_any _ _
             rintro e w5 ⟨rfl, hw⟩
             replace hw := hw.symm
             subst hw
             refine ⟨_, rfl, ?_⟩)
          | (refine step_call (by rfl) 13 _ _ (by rfl) (Go.Proofs.enters_of Tryd.func13 (by kernel_rfl) rfl) #[.pointer (some ⟨w.heap.size + 2, 0, none⟩), .slice a1 ns.length c1] (by rfl) (RTold (w.heap.size + 2) (w.heap.size + 3) vr (byteOut ns xs) w4) ?_ ?_
             · exact rbyteW_all (w.heap.size + 2) (w.heap.size + 3) vr xs a1 ns.length c1 ns w4 B4.R B4.rO B4.hz hxs rfl (by omega) (hIo.keep (below_keep B4.hb))
             intro e w5 T
             obtain ⟨vr5, rfl, B5⟩ := B4.rtold T
             clear T
             refine ⟨_, rfl, ?_⟩))

        all_goals
          have hd : ((byteOut ns xs).1 == (byteOut ns xs).1) = true := by simp
          have hlo : (byteOut ns xs).2.length ≤ 1048576 := byteOut_len ns xs hxs
          generalize byteOut ns xs = out at *
          clear B B3 B4 hI3 hIw hnot hk3 hk4 hOe hbe hSe hke hb3 hI hIo hc0 hc1 hc1w hc2w hc0w hr1
          go_wp2_with fail
          refine (bytes_any _ _ _ v4 _ w5 B5.H B5.hO hlo).mono ?_
          rintro e w6 ⟨rfl, hO6, hb6⟩
          have B6 := B5.chg (Chg.of_below (S := fun _ => False) hb6) (fun _ _ e => e)
          obtain ⟨a6, c6, hv6, _, _, hB6, _, _⟩ := Own.bs B6.rO
          obtain ⟨a7, c7, hv7, _, _, hB7, _, _⟩ := Own.bs hO6
          simp only [Value.slice.injEq] at hv7
          rw [← hv7.1] at hB7
          have hX6 : Bytes8 w6 w5.heap.size out.2.length := Bytes8.of_bytes rfl hO6
          subst hv6
          obtain ⟨r0, _⟩ := B6.R.cell
          clear hv7 B6 hO6
          generalize out.2 = ys at *
          generalize out.1 = oc at *
          have s1 : ∀ n, (convert 26 9 (.slice (some ⟨w5.heap.size, 0, none⟩) ys.length ys.length)).run Tryd.prog (w6.drewN n) = .ok (.string ⟨ys.toArray⟩) (w6.drewN n) := fun n => run_str (hB7.keep (fun a v h => by simpa using h)) ys.length
          have s2 : ∀ n, (convert 26 9 (.slice a6 ys.length c6)).run Tryd.prog (w6.drewN n) = .ok (.string ⟨ys.toArray⟩) (w6.drewN n) := fun n => run_str (hB6.keep (fun a v h => by simpa using h)) c6
          clear hB6 hB7
          go_wp2
          go_quiet (fail)
          have hX7 : Bytes8 (w6.drewN nq) w5.heap.size ys.length := hX6.chg (Chg.drewN _ _ (fun _ => False)) id
          have hc7 : Chg w5 (w6.drewN nq) (fun b => b = w5.heap.size) := (Chg.of_below hb6).trans (Chg.drewN _ _ (fun _ => False)) (fun _ _ e => e.elim)
          clear hX6 hb6 s1 s2 r0
          go_wp2
          go_loopw [8] (fun i wr => ∃ q : Nat, q ≤ ys.length ∧ i = .int .i64 q ∧ Bytes8 wr w5.heap.size ys.length ∧ Chg w5 wr (fun b => b = w5.heap.size)) (fun i _ => ys.length - (intOf i).toNat)
          case atStart => exact ⟨0, Nat.zero_le _, rfl, hX7, hc7⟩
          case round =>
            clear hX7 hc7
            obtain ⟨q, hq, rfl, hXq, hcq⟩ := hrel
            by_cases hqt : q < ys.length
            · obtain ⟨y, hy, cy, fy⟩ := hXq.cell q hqt
              have hv : ((y : Int) + 1) % 256 = (((y + 1) % 256 : Nat) : Int) := by omega
              have hX' := hXq.set q ((y + 1) % 256) _ hv (by omega)
              have hc' : ∀ v, Chg w5 (wr.setCell ⟨w5.heap.size, q, none⟩ v) (fun b => b = w5.heap.size) := fun v => hcq.trans (Chg.setCell wr ⟨w5.heap.size, q, none⟩ v) (fun _ _ e => e)
              have hc2 := hc' (.int .u8 (((y : Int) + 1) % 256))
              clear hXq hcq hv hc'
              go_wp2
              go_roundw
              case rel => exact ⟨q + 1, by omega, by go_num, hX', hc2⟩
              case measure => simp [intOf]; omega
            · have B7 := B5.chg hcq (fun i hi e => by omega)
              clear hXq hcq B5
              go_wp2
              first
                | exact ⟨⟨k + 1, _, _, _, by omega, by go_num, B7, hlo⟩, by simp only [intOf]; omega⟩
                | (go_roundw
                   case rel => exact ⟨k + 1, _, _, _, by omega, by go_num, B7, hlo⟩
                   case measure => simp [intOf]; omega)
      by_cases h1 : K = 1
      · subst h1
        clear hS hc2 hr2 hr3 hP hr hSo
        have hOe : Own (wr.drew.alloc (.cells #[] 3)) wr.heap.size 3 (.slice (some ⟨wr.heap.size, 0, none⟩) 0 0) [] := World.ownsRow_lit wr.drew #[] 0 (Nat.le_refl _) (Nat.zero_le _) rfl
        have hbe : Below wr.heap.size wr (wr.drew.alloc (.cells #[] 3)) := (Below.refl wr.heap.size wr).drew.alloc (Nat.le_refl _) _
        have hSe := src_any (P := Tryd.prog) (wr.drew.alloc (.cells #[] 3)) Tryd.underlying30 (ao := a1) iv (fun _ => rfl) (l := ns) (hI.keep (below_keep hbe)) c1
        have hke := below_keep hbe _ _ hc1
        have hz := B.hz
        have hbw : b < w.heap.size := World.block_lt_of_cell? _ _ hc1w
        have hbw2 : b < wr.heap.size := by omega
        go_wp2
        go_region_law (first
          | (refine step_app _ (by rfl) (.tmp 70) (.tmp 75) _ _ (by rfl) elem_int wr.heap.size (.slice (some ⟨wr.heap.size, 0, none⟩) 0 0) [] (by rfl) (by exact hOe) _ (by rfl) (ns.map iv) (by exact hSe) (by simp only [List.length_map, List.length_nil]; unfold maxLen; omega) (by simp only [List.length_map, List.length_nil]; omega) (by simp) ?_
             intro v3 w3 hO3 hs3
             have hb3 : Below wr.heap.size wr w3 := hbe.trans (hs3.below (by simp) (fun k h => (hOe.lt k h).1))
             have B3 := B.chg (Chg.of_below (S := fun _ => False) hb3) (fun _ _ e => e)
             have hlt3 := hO3.lt
             obtain ⟨a3, c3, hv3, hbk3, hI3⟩ := Own.any iv hO3
             subst hv3
             have hk3 := below_keep hb3 _ _ hc1
             have hIw := fun w' (hc : Chg w3 w' (WSet w.heap.size v)) => any_chg iv hI3 hc (fun g hg e => by have h1 := (hlt3 g (by rw [hbk3]; exact hg)).1; rcases e with e | e; omega; have := (B.hO.lt g e).2; omega)
             have hnot : ¬ WSet w.heap.size v b := fun e => by rcases WSet.ge B3.hO e with e | e <;> omega
             clear hO3 hs3 hlt3 hbk3)
          | (refine step_call (by rfl) 14 _ _ (by rfl) (Go.Proofs.enters_of Tryd.func14 (by kernel_rfl) rfl) #[.pointer (some ⟨w.heap.size + 1, 0, none⟩), .slice a3 ns.length c3] (by rfl) (Told (w.heap.size + 1) w.heap.size (w.heap.size + 3) v (intOut ns xs) w3) ?_ ?_
             · exact wint_all (w.heap.size + 1) w.heap.size (w.heap.size + 3) v xs a3 ns.length c3 ns w3 B3.H B3.hO B3.hz hxs rfl hIw
             intro e w4 T
             obtain ⟨v4, rfl, B4⟩ := B3.told T
             have hk4 := T.chg.cell hk3 hnot
             clear T
             refine ⟨_, rfl, ?_⟩)
          | (refine step_call (by rfl) 11 _ _ (by rfl) (Go.Proofs.enters_of Tryd.func11 (by kernel_rfl) rfl) #[.int .i64 (intOut ns xs).1] (by rfl) (fun e w' => e = .returned (.int .i64 (intOut ns xs).1) ∧ w' = w4) ?_ ?_
             · exact num_any _ _
             rintro e w5 ⟨rfl, hw⟩
             replace hw := hw.symm
             subst hw
             refine ⟨_, rfl, ?_⟩)
          | (refine step_call (by rfl) 15 _ _ (by rfl) (Go.Proofs.enters_of Tryd.func15 (by kernel_rfl) rfl) #[.pointer (some ⟨w.heap.size + 2, 0, none⟩), .slice a1 ns.length c1] (by rfl) (RTold (w.heap.size + 2) (w.heap.size + 3) vr (intOut ns xs) w4) ?_ ?_
             · exact rintW_all (w.heap.size + 2) (w.heap.size + 3) vr xs a1 ns.length c1 ns w4 B4.R B4.rO B4.hz hxs rfl (by omega) (hIo.keep (below_keep B4.hb))
             intro e w5 T
             obtain ⟨vr5, rfl, B5⟩ := B4.rtold T
             clear T
             refine ⟨_, rfl, ?_⟩))

        all_goals
          have hd : ((intOut ns xs).1 == (intOut ns xs).1) = true := by simp
          have hlo : (intOut ns xs).2.length ≤ 1048576 := moreOut_len _ xs hxs
          generalize intOut ns xs = out at *
          clear B B3 B4 hI3 hIw hnot hk3 hk4 hOe hbe hSe hke hb3 hI hIo hc0 hc1 hc1w hc2w hc0w hr1
          go_wp2_with fail
          refine (bytes_any _ _ _ v4 _ w5 B5.H B5.hO hlo).mono ?_
          rintro e w6 ⟨rfl, hO6, hb6⟩
          have B6 := B5.chg (Chg.of_below (S := fun _ => False) hb6) (fun _ _ e => e)
          obtain ⟨a6, c6, hv6, _, _, hB6, _, _⟩ := Own.bs B6.rO
          obtain ⟨a7, c7, hv7, _, _, hB7, _, _⟩ := Own.bs hO6
          simp only [Value.slice.injEq] at hv7
          rw [← hv7.1] at hB7
          have hX6 : Bytes8 w6 w5.heap.size out.2.length := Bytes8.of_bytes rfl hO6
          subst hv6
          obtain ⟨r0, _⟩ := B6.R.cell
          clear hv7 B6 hO6
          generalize out.2 = ys at *
          generalize out.1 = oc at *
          have s1 : ∀ n, (convert 26 9 (.slice (some ⟨w5.heap.size, 0, none⟩) ys.length ys.length)).run Tryd.prog (w6.drewN n) = .ok (.string ⟨ys.toArray⟩) (w6.drewN n) := fun n => run_str (hB7.keep (fun a v h => by simpa using h)) ys.length
          have s2 : ∀ n, (convert 26 9 (.slice a6 ys.length c6)).run Tryd.prog (w6.drewN n) = .ok (.string ⟨ys.toArray⟩) (w6.drewN n) := fun n => run_str (hB6.keep (fun a v h => by simpa using h)) c6
          clear hB6 hB7
          go_wp2
          go_quiet (fail)
          have hX7 : Bytes8 (w6.drewN nq) w5.heap.size ys.length := hX6.chg (Chg.drewN _ _ (fun _ => False)) id
          have hc7 : Chg w5 (w6.drewN nq) (fun b => b = w5.heap.size) := (Chg.of_below hb6).trans (Chg.drewN _ _ (fun _ => False)) (fun _ _ e => e.elim)
          clear hX6 hb6 s1 s2 r0
          go_wp2
          go_loopw [8] (fun i wr => ∃ q : Nat, q ≤ ys.length ∧ i = .int .i64 q ∧ Bytes8 wr w5.heap.size ys.length ∧ Chg w5 wr (fun b => b = w5.heap.size)) (fun i _ => ys.length - (intOf i).toNat)
          case atStart => exact ⟨0, Nat.zero_le _, rfl, hX7, hc7⟩
          case round =>
            clear hX7 hc7
            obtain ⟨q, hq, rfl, hXq, hcq⟩ := hrel
            by_cases hqt : q < ys.length
            · obtain ⟨y, hy, cy, fy⟩ := hXq.cell q hqt
              have hv : ((y : Int) + 1) % 256 = (((y + 1) % 256 : Nat) : Int) := by omega
              have hX' := hXq.set q ((y + 1) % 256) _ hv (by omega)
              have hc' : ∀ v, Chg w5 (wr.setCell ⟨w5.heap.size, q, none⟩ v) (fun b => b = w5.heap.size) := fun v => hcq.trans (Chg.setCell wr ⟨w5.heap.size, q, none⟩ v) (fun _ _ e => e)
              have hc2 := hc' (.int .u8 (((y : Int) + 1) % 256))
              clear hXq hcq hv hc'
              go_wp2
              go_roundw
              case rel => exact ⟨q + 1, by omega, by go_num, hX', hc2⟩
              case measure => simp [intOf]; omega
            · have B7 := B5.chg hcq (fun i hi e => by omega)
              clear hXq hcq B5
              go_wp2
              first
                | exact ⟨⟨k + 1, _, _, _, by omega, by go_num, B7, hlo⟩, by simp only [intOf]; omega⟩
                | (go_roundw
                   case rel => exact ⟨k + 1, _, _, _, by omega, by go_num, B7, hlo⟩
                   case measure => simp [intOf]; omega)
      · have k0 : (K == 0) = false := by simp [h0]
        have k1 : (K == 1) = false := by simp [h1]
        clear hI hc1 hr1 hP hr hIo
        have hOe : Own (wr.drew.alloc (.cells #[] 9)) wr.heap.size 9 (.slice (some ⟨wr.heap.size, 0, none⟩) 0 0) [] := World.ownsRow_lit wr.drew #[] 0 (Nat.le_refl _) (Nat.zero_le _) rfl
        have hbe : Below wr.heap.size wr (wr.drew.alloc (.cells #[] 9)) := (Below.refl wr.heap.size wr).drew.alloc (Nat.le_refl _) _
        have hSe := src_any (P := Tryd.prog) (wr.drew.alloc (.cells #[] 9)) Tryd.underlying31 (ao := a2) tv (fun _ => rfl) (l := ss) (hS.keep (below_keep hbe)) c2
        have hke := below_keep hbe _ _ hc2
        have hz := B.hz
        have hbw : b < w.heap.size := World.block_lt_of_cell? _ _ hc2w
        have hbw2 : b < wr.heap.size := by omega
        go_wp2
        go_region_law (first
          | (refine step_app _ (by rfl) (.tmp 30) (.tmp 35) _ _ (by rfl) elem_strW wr.heap.size (.slice (some ⟨wr.heap.size, 0, none⟩) 0 0) [] (by rfl) (by exact hOe) _ (by rfl) (ss.map tv) (by exact hSe) (by simp only [List.length_map, List.length_nil]; unfold maxLen; omega) (by simp only [List.length_map, List.length_nil]; omega) (by simp) ?_
             intro v3 w3 hO3 hs3
             have hb3 : Below wr.heap.size wr w3 := hbe.trans (hs3.below (by simp) (fun k h => (hOe.lt k h).1))
             have B3 := B.chg (Chg.of_below (S := fun _ => False) hb3) (fun _ _ e => e)
             have hlt3 := hO3.lt
             obtain ⟨a3, c3, hv3, hbk3, hI3⟩ := Own.any tv hO3
             subst hv3
             have hk3 := below_keep hb3 _ _ hc2
             have hIw := fun w' (hc : Chg w3 w' (WSet w.heap.size v)) => any_chg tv hI3 hc (fun g hg e => by have h1 := (hlt3 g (by rw [hbk3]; exact hg)).1; rcases e with e | e; omega; have := (B.hO.lt g e).2; omega)
             have hnot : ¬ WSet w.heap.size v b := fun e => by rcases WSet.ge B3.hO e with e | e <;> omega
             clear hO3 hs3 hlt3 hbk3)
          | (refine step_call (by rfl) 16 _ _ (by rfl) (Go.Proofs.enters_of Tryd.func16 (by kernel_rfl) rfl) #[.pointer (some ⟨w.heap.size + 1, 0, none⟩), .slice a3 ss.length c3] (by rfl) (Told (w.heap.size + 1) w.heap.size (w.heap.size + 3) v (textOut ss xs) w3) ?_ ?_
             · exact wtext_all (w.heap.size + 1) w.heap.size (w.heap.size + 3) v xs a3 ss.length c3 ss w3 B3.H B3.hO B3.hz hxs rfl hIw (by omega) hr3
             intro e w4 T
             obtain ⟨v4, rfl, B4⟩ := B3.told T
             have hk4 := T.chg.cell hk3 hnot
             clear T
             refine ⟨_, rfl, ?_⟩)
          | (refine step_call (by rfl) 11 _ _ (by rfl) (Go.Proofs.enters_of Tryd.func11 (by kernel_rfl) rfl) #[.int .i64 (textOut ss xs).1] (by rfl) (fun e w' => e = .returned (.int .i64 (textOut ss xs).1) ∧ w' = w4) ?_ ?_
             · exact num_any _ _
             rintro e w5 ⟨rfl, hw⟩
             replace hw := hw.symm
             subst hw
             refine ⟨_, rfl, ?_⟩)
          | (refine step_call (by rfl) 17 _ _ (by rfl) (Go.Proofs.enters_of Tryd.func17 (by kernel_rfl) rfl) #[.pointer (some ⟨w.heap.size + 2, 0, none⟩), .slice a2 ss.length c2] (by rfl) (RTold (w.heap.size + 2) (w.heap.size + 3) vr (textOut ss xs) w4) ?_ ?_
             · exact rtextW_all (w.heap.size + 2) (w.heap.size + 3) vr xs a2 ss.length c2 ss w4 B4.R B4.rO B4.hz hxs rfl (by omega) (hSo.keep (below_keep B4.hb)) hr3
             intro e w5 T
             obtain ⟨vr5, rfl, B5⟩ := B4.rtold T
             clear T
             refine ⟨_, rfl, ?_⟩))

        all_goals
          have hd : ((textOut ss xs).1 == (textOut ss xs).1) = true := by simp
          have hlo : (textOut ss xs).2.length ≤ 1048576 := textOut_len ss xs hxs
          generalize textOut ss xs = out at *
          clear B B3 B4 hI3 hIw hnot hk3 hk4 hOe hbe hSe hke hb3 hS hSo hc0 hc2 hc1w hc2w hc0w hr2 hr3
          go_wp2_with fail
          refine (bytes_any _ _ _ v4 _ w5 B5.H B5.hO hlo).mono ?_
          rintro e w6 ⟨rfl, hO6, hb6⟩
          have B6 := B5.chg (Chg.of_below (S := fun _ => False) hb6) (fun _ _ e => e)
          obtain ⟨a6, c6, hv6, _, _, hB6, _, _⟩ := Own.bs B6.rO
          obtain ⟨a7, c7, hv7, _, _, hB7, _, _⟩ := Own.bs hO6
          simp only [Value.slice.injEq] at hv7
          rw [← hv7.1] at hB7
          have hX6 : Bytes8 w6 w5.heap.size out.2.length := Bytes8.of_bytes rfl hO6
          subst hv6
          obtain ⟨r0, _⟩ := B6.R.cell
          clear hv7 B6 hO6
          generalize out.2 = ys at *
          generalize out.1 = oc at *
          have s1 : ∀ n, (convert 26 9 (.slice (some ⟨w5.heap.size, 0, none⟩) ys.length ys.length)).run Tryd.prog (w6.drewN n) = .ok (.string ⟨ys.toArray⟩) (w6.drewN n) := fun n => run_str (hB7.keep (fun a v h => by simpa using h)) ys.length
          have s2 : ∀ n, (convert 26 9 (.slice a6 ys.length c6)).run Tryd.prog (w6.drewN n) = .ok (.string ⟨ys.toArray⟩) (w6.drewN n) := fun n => run_str (hB6.keep (fun a v h => by simpa using h)) c6
          clear hB6 hB7
          go_wp2
          go_quiet (fail)
          have hX7 : Bytes8 (w6.drewN nq) w5.heap.size ys.length := hX6.chg (Chg.drewN _ _ (fun _ => False)) id
          have hc7 : Chg w5 (w6.drewN nq) (fun b => b = w5.heap.size) := (Chg.of_below hb6).trans (Chg.drewN _ _ (fun _ => False)) (fun _ _ e => e.elim)
          clear hX6 hb6 s1 s2 r0
          go_wp2
          go_loopw [8] (fun i wr => ∃ q : Nat, q ≤ ys.length ∧ i = .int .i64 q ∧ Bytes8 wr w5.heap.size ys.length ∧ Chg w5 wr (fun b => b = w5.heap.size)) (fun i _ => ys.length - (intOf i).toNat)
          case atStart => exact ⟨0, Nat.zero_le _, rfl, hX7, hc7⟩
          case round =>
            clear hX7 hc7
            obtain ⟨q, hq, rfl, hXq, hcq⟩ := hrel
            by_cases hqt : q < ys.length
            · obtain ⟨y, hy, cy, fy⟩ := hXq.cell q hqt
              have hv : ((y : Int) + 1) % 256 = (((y + 1) % 256 : Nat) : Int) := by omega
              have hX' := hXq.set q ((y + 1) % 256) _ hv (by omega)
              have hc' : ∀ v, Chg w5 (wr.setCell ⟨w5.heap.size, q, none⟩ v) (fun b => b = w5.heap.size) := fun v => hcq.trans (Chg.setCell wr ⟨w5.heap.size, q, none⟩ v) (fun _ _ e => e)
              have hc2 := hc' (.int .u8 (((y : Int) + 1) % 256))
              clear hXq hcq hv hc'
              go_wp2
              go_roundw
              case rel => exact ⟨q + 1, by omega, by go_num, hX', hc2⟩
              case measure => simp [intOf]; omega
            · have B7 := B5.chg hcq (fun i hi e => by omega)
              clear hXq hcq B5
              go_wp2
              first
                | exact ⟨⟨k + 1, _, _, _, by omega, by go_num, B7, hlo⟩, by simp only [intOf]; omega⟩
                | (go_roundw
                   case rel => exact ⟨k + 1, _, _, _, by omega, by go_num, B7, hlo⟩
                   case measure => simp [intOf]; omega)
    · have hb := B.hb
      clear B
      go_wp2
      go_ret
      exact ⟨rfl, hb⟩
end Go.Proofs.YtjnmgnnaefiegaaDoor
