/- What Match does at each place. -/
import Derived.Test.YtodagpmcmjleaaaSF
import Derived.Test.YtodagpmcmjleaaaSH
import Derived.Deep.RegionHeld3
namespace Go.Proofs.Ytodagpmcmjleaaa
open Go.RowKit
def oOf (x : Int) : Option Nat := if x = -1 then none else some x.toNat
/-- What is noted at place k. -/
def visS (nn : Int) (k : Nat) (L : List Blk) (ms : List Int) : List Int :=
  if nn = 50 then (match L.getLast? with | none => ms | some b => pairS ms b.s.toNat (oOf b.o) k)
  else if nn = 52 then (match firstIx L Blk.l L.length with | none => ms | some i => ms.set k ((L[i]?.map Blk.s).getD 0))
  else ms
def Blk.ok (n : Nat) (b : Blk) : Prop := 0 ≤ b.s ∧ b.s < n ∧ (b.o = -1 ∨ 0 ≤ b.o ∧ b.o < n)
theorem Stk.only {p g : Nat} {L : List Blk} {a : Option Addr} {cap : Nat} {W W' : World} (h : Stk (p + 1) p L a cap W) (ho : Only g W W') (hg : g < p) : Stk (p + 1) p L a cap W' := by
  refine ⟨ho.obj h.box (by omega), ?_⟩
  have hk := h.row.kept ho (by
    rcases hb : (Value.slice a L.length cap).ownBlock with _ | q
    · exact .inl rfl
    · right
      intro e
      have := (h.row.lt q hb).1
      cases e
      omega)
  exact hk
theorem pairS_len (ms : List Int) (s : Nat) (o : Option Nat) (t : Nat) : (pairS ms s o t).length = ms.length := by cases o <;> simp [pairS]
theorem visS_len (nn : Int) (k : Nat) (L : List Blk) (ms : List Int) : (visS nn k L ms).length = ms.length := by
  unfold visS
  split
  · split
    · rfl
    · exact pairS_len _ _ _ _
  · split
    · split
      · rfl
      · simp
    · rfl
set_option maxRecDepth 100000 in
set_option maxHeartbeats 1000000 in
theorem visit_any {p g cB mB cb co cc n k : Nat} {nn : Int} {ms : List Int} {L : List Blk} {a : Option Addr} {cap : Nat} (W : World) (hS : Stk (p + 1) p L a cap W) (hl : L.length ≤ 8) (hk : k < n) (hml : ms.length = n) (hok : ∀ b ∈ L, b.ok n) (hst : standS nn L = true)
    (hcb : W.heap[cB]? = some (.cells #[.slice (some ⟨cb, co, none⟩) n cc] 22 (0, 0))) (hmb : W.heap[mB]? = some (.cells #[.slice (some ⟨g, 0, none⟩) n n] 23 (0, 0))) (hc : W.cell? ⟨cb, co + k * 2, none⟩ = some (.int .i64 nn)) (hB : NumBlk g ms W) (hgp : g < p) :
    Calls Try.prog 26 #[.int .i64 k, .pointer (some ⟨p, 0, none⟩), .pointer (some ⟨cB, 0, none⟩), .pointer (some ⟨mB, 0, none⟩)] W fun e w' => e = .returned (.tuple #[]) ∧ Stk (p + 1) p L a cap w' ∧ NumBlk g (visS nn k L ms) w' ∧ Only g W w' := by
  obtain ⟨x0, _⟩ := one_cell hcb
  obtain ⟨x1, _⟩ := one_cell hmb
  have hkeep : ∀ w, Below W.heap.size W w → w.cell? ⟨mB, 0, none⟩ = some (.slice (some ⟨g, 0, none⟩) n n) := fun w hb => (hb.cell (blk_lt hmb)).trans x1
  by_cases n1 : nn = 50
  · subst n1
    rcases List.eq_nil_or_concat L with rfl | ⟨M, b, rfl⟩
    · simp [standS] at hst
    rw [List.concat_eq_append] at hS hl hok ⊢
    obtain ⟨gg, rfl, _⟩ := hS.at (by simp)
    have hT := top_any W.drew (hS.keep (Below.refl _ W).drew) (fun _ => rfl) (by omega) (some M.length) (hid6 (first_snoc M b))
    have hat : ∀ wr, Below W.heap.size W wr → wr.cell? ⟨gg, M.length * 3, none⟩ = some (.int .i64 b.s) ∧ wr.cell? ⟨gg, M.length * 3 + 1, none⟩ = some (.int .i64 b.o) ∧ wr.cell? ⟨gg, M.length * 3 + 2, none⟩ = some (.bool b.l) := fun wr hb => by
      obtain ⟨g', e, _, _, _, hc⟩ := (hS.keep hb).at (by simp)
      cases e
      simpa using hc M.length (by simp)
    obtain ⟨ok1, ok2, ok3⟩ := hok b (by simp)
    obtain ⟨s, hs⟩ : ∃ s : Nat, b.s = s := ⟨b.s.toNat, by omega⟩
    have HE : Hid (visS 50 k (M ++ [b]) ms = pairS ms s (oOf b.o) k) := hid6 (by simp [visS, hs])
    have ho : b.o = oInt (oOf b.o) := by
      unfold oOf
      rcases ok3 with h | ⟨h1, h2⟩
      · rw [if_pos h, h]; rfl
      · rw [if_neg (by omega)]; simp only [oInt]; omega
    have hoo : ∀ x, oOf b.o = some x → x < n := by
      intro x hx
      unfold oOf at hx
      split at hx
      · cases hx
      · cases hx; omega
    have hsn : s < n := by omega
    rw [hs, ho] at hat
    generalize oOf b.o = o at hat HE hoo
    have hP := fun w (h : NumBlk g ms w) => pair_any g ms n n hml s k o b.l hsn hk hoo w h
    simp only [Blk.v] at hP
    simp only [ptrIx] at hT
    generalize oInt o = oi at hat hP
    generalize b.l = bl at hat hP
    generalize M.length = q at hat hT
    have hmg : mB ≠ g := by
      rintro rfl
      unfold NumBlk at hB
      rw [hmb] at hB
      simp at hB
    have hgg : gg ≠ g := by
      have := (hS.row.lt gg rfl).1
      omega
    have hS4 : ∀ w, Below W.heap.size W w → w.cell? ⟨mB, 0, none⟩ = some (.slice (some ⟨g, 0, none⟩) n n) ∧ w.cell? ⟨gg, q * 3, none⟩ = some (.int .i64 s) ∧ w.cell? ⟨gg, q * 3 + 1, none⟩ = some (.int .i64 oi) ∧ w.cell? ⟨gg, q * 3 + 2, none⟩ = some (.bool bl) := fun w hb => ⟨hkeep w hb, hat w hb⟩
    have hS5 : ∀ w w', Below W.heap.size W w → Only g w w' → w'.cell? ⟨mB, 0, none⟩ = some (.slice (some ⟨g, 0, none⟩) n n) ∧ w'.cell? ⟨gg, q * 3, none⟩ = some (.int .i64 s) ∧ w'.cell? ⟨gg, q * 3 + 1, none⟩ = some (.int .i64 oi) ∧ w'.cell? ⟨gg, q * 3 + 2, none⟩ = some (.bool bl) := fun w w' hb ho => by
      obtain ⟨e0, e1, e2, e3⟩ := hS4 w hb
      exact ⟨ho.cell e0 (by simpa using hmg), ho.cell e1 (by simpa using hgg), ho.cell e2 (by simpa using hgg), ho.cell e3 (by simpa using hgg)⟩
    obtain ⟨_, y0, y1, y2⟩ := hS4 W (Below.refl _ _)
    have HS := hid6 hS
    have HB := hid6 hB
    have HP := hid6 hP
    clear hS hB hok hst ok1 ok2 ok3 hs ho hoo hcb hmb hP
    go_enter Try.func26, Try.ntmps26
    go_wp2_with fail
    go_region_held3 (fun W => W.cell? ⟨mB, 0, none⟩ = some (.slice (some ⟨g, 0, none⟩) n n) ∧ W.cell? ⟨gg, q * 3, none⟩ = some (.int .i64 s) ∧ W.cell? ⟨gg, q * 3 + 1, none⟩ = some (.int .i64 oi) ∧ W.cell? ⟨gg, q * 3 + 2, none⟩ = some (.bool bl)) (first | go_keep | exact hS5 _ _ hb2 hO3 | exact hS4 _ hb2 | exact hS4 _ (Below.refl _ W).drew) (first
      | (go_at_call 28; refine hT.mono ?_; clear hT; rintro e w2 ⟨rfl, hb2'⟩; have hb2 : Below W.heap.size W w2 := (Below.refl _ W).drew.trans hb2'; skip)
      | (go_at_call 27; refine (HP.out _ ((hb2.block _ (blk_lt HB.out)).trans HB.out)).mono ?_; rintro e w3 ⟨rfl, hB3, hO3⟩))
    all_goals
      go_wp2_with fail
      go_end0
      exact ⟨rfl, (HS.out.keep hb2).only hO3 hgp, by rw [HE.out]; exact hB3, (Only.below hb2).trans hO3⟩
  by_cases n2 : nn = 52
  · subst n2
    have hsome : (firstIx L Blk.l L.length).isSome = true := by simpa [standS] using hst
    obtain ⟨i, hi⟩ := Option.isSome_iff_exists.1 hsome
    obtain ⟨hil, b, hb, _⟩ := firstIx_lt hi
    obtain ⟨gg, rfl, _⟩ := hS.at (by omega)
    have hT := inner_any W.drew (hS.keep (Below.refl _ W).drew) (fun _ => rfl) (by omega) (some i) (hid6 hi)
    have hbi : L[i]'hil = b := by rw [List.getElem?_eq_getElem hil] at hb; exact Option.some.inj hb
    have hat : ∀ wr, Below W.heap.size W wr → wr.cell? ⟨gg, i * 3, none⟩ = some (.int .i64 b.s) := fun wr hb => by
      obtain ⟨g', e, _, _, _, hc⟩ := (hS.keep hb).at (by omega)
      cases e
      rw [← hbi]
      exact (hc i hil).1
    have HE : Hid (visS 52 k L ms = ms.set k b.s) := hid6 (by simp [visS, hi, hb])
    simp only [ptrIx] at hT
    generalize b.s = s at hat HE
    have hmg : mB ≠ g := by
      rintro rfl
      unfold NumBlk at hB
      rw [hmb] at hB
      simp at hB
    have hgg : gg ≠ g := by
      have := (hS.row.lt gg rfl).1
      omega
    have hS4 : ∀ w, Below W.heap.size W w → w.cell? ⟨mB, 0, none⟩ = some (.slice (some ⟨g, 0, none⟩) n n) ∧ w.cell? ⟨gg, i * 3, none⟩ = some (.int .i64 s) := fun w hb => ⟨hkeep w hb, hat w hb⟩
    have hS5 : ∀ w w', Below W.heap.size W w → Only g w w' → w'.cell? ⟨mB, 0, none⟩ = some (.slice (some ⟨g, 0, none⟩) n n) ∧ w'.cell? ⟨gg, i * 3, none⟩ = some (.int .i64 s) := fun w w' hb ho => by
      obtain ⟨e0, e1⟩ := hS4 w hb
      exact ⟨ho.cell e0 (by simpa using hmg), ho.cell e1 (by simpa using hgg)⟩
    obtain ⟨_, y0⟩ := hS4 W (Below.refl _ _)
    have HZ : Hid (∀ w, Below W.heap.size W w → NumBlk g ms w) := hid6 fun w hb => (hb.block _ (blk_lt hB)).trans hB
    have HS := hid6 hS
    clear hS hB hok hst hcb hmb hi hsome hb hbi
    go_enter Try.func26, Try.ntmps26
    go_wp2_with fail
    go_region_held3 (fun W => W.cell? ⟨mB, 0, none⟩ = some (.slice (some ⟨g, 0, none⟩) n n) ∧ W.cell? ⟨gg, i * 3, none⟩ = some (.int .i64 s)) (first | exact ⟨x1, y0⟩ | exact hS5 _ _ hb2 (Only.set g k _ _) | exact hS4 _ hb2 | go_keep) (first
      | (go_at_call 29; refine hT.mono ?_; clear hT; rintro e w2 ⟨rfl, hb2'⟩; have hb2 : Below W.heap.size W w2 := (Below.refl _ W).drew.trans hb2'; obtain ⟨z0, z1⟩ := (HZ.out _ hb2).at k (by omega)))
    all_goals
      go_wp2_with fail
      go_end0
      exact ⟨rfl, (HS.out.keep hb2).only (Only.set g k _ _) hgp, by rw [HE.out]; exact (HZ.out _ hb2).set k _, (Only.below hb2).trans (Only.set g k _ _)⟩
  · have HE : Hid (visS nn k L ms = ms) := hid6 (by simp [visS, n1, n2])
    have HH := hid6 (And.intro hS hB)
    clear hS hB hst
    go_enter Try.func26, Try.ntmps26
    go_wp2_with fail
    go_end0
    exact ⟨rfl, HH.out.1, by rw [HE.out]; exact HH.out.2, Only.refl _ _⟩
end Go.Proofs.Ytodagpmcmjleaaa
