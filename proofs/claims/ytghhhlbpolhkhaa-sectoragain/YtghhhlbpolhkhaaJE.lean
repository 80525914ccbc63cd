/- Layer 15: the law SectorAgain. -/
import Derived.Test.YtghhhlbpolhkhaaJA
import Derived.Test.YtghhhlbpolhkhaaJD
import Derived.Test.YtghhhlbpolhkhaaER
import Derived.Test.YtghhhlbpolhkhaaES
namespace Go.Proofs.Ytghhhlbpolhkhaa
open Go.RowKit
theorem DkAt.nf {K : Nat → Prop} {db : Nat} {d : Dk} {w : World} (h : DkAt K db d w) : d.fs.length ≤ 256 := by
  obtain ⟨vb, fsv, zs, h1, h2, _, _⟩ := h
  rw [← h2, List.length_map]
  exact h1.nf
theorem Crashed.read {d : Dk} (h : Crashed d) {nm : Bt} (hn : nm ∈ namesD d) : readE d nm = 0 ∧ readL d nm ≠ [] := by
  obtain ⟨h1, _, h3⟩ := h
  obtain ⟨f, hf, rfl⟩ := List.mem_map.1 hn
  cases e : fileOf d.fs f.name with
  | none =>
    unfold fileOf at e
    rw [List.find?_eq_none] at e
    have := e f hf
    simp at this
  | some g =>
    have hg : g ∈ d.fs := List.mem_of_find?_eq_some e
    obtain ⟨l, hl, _, hc⟩ := h1 g hg
    unfold readE readL
    rw [h3, e]
    simp only [Bool.false_eq_true, if_false, true_and]
    rw [hc, List.map_map]
    intro e2
    exact hl (List.map_eq_nil_iff.1 e2)
theorem elemW15 : ElemN Try.prog 52 27 1 24 := ⟨Try.underlying52, by refine ⟨_, _, rfl, rfl, rfl, rfl, rfl⟩, by omega⟩
/-- A row of rows that were read. -/
structure WasR (w : World) (K : Nat → Prop) (v : Value) (Ss : List (List Sec)) (vs : List Value) (W : World) : Prop where
  row : W.ownsRow w.heap.size 27 1 v Ss.length vs
  k : ∀ b, v.ownBlock = some b → K b
  each : ∀ j (h : j < Ss.length), ∃ a n c, vs[j]? = some (.slice a n c) ∧ Rd K (.slice a n c) Ss[j] W
theorem WasR.kt {w : World} {K : Nat → Prop} {v : Value} {S : List (List Sec)} {vs : List Value} {W W' : World} (h : WasR w K v S vs W) (k : Kt (fun i => ¬ K i) W W') : WasR w K v S vs W' := ⟨row_keep h.row fun b hb => k.block b (h.row.lt b hb).2 (fun x => x (h.k b hb)), h.k, fun j hj => by
  obtain ⟨a, n, c, e, r⟩ := h.each j hj
  exact ⟨a, n, c, e, r.kt k⟩⟩
theorem WasR.mono {w : World} {K R : Nat → Prop} {v : Value} {S : List (List Sec)} {vs : List Value} {W : World} (h : WasR w K v S vs W) (hr : ∀ k, K k → R k) : WasR w R v S vs W := ⟨h.row, fun b hb => hr b (h.k b hb), fun j hj => by
  obtain ⟨a, n, c, e, r⟩ := h.each j hj
  exact ⟨a, n, c, e, r.mono hr⟩⟩
theorem TxR.mono {w : World} {K R : Nat → Prop} {v : Value} {S : List Bt} {W : World} (h : TxR w K v S W) (hr : ∀ k, K k → R k) : TxR w R v S W := ⟨h.row, fun b hb => hr b (h.k b hb)⟩
/-- Rows of unlike elements lie apart. -/
theorem row_ne {W : World} {base base' n n' s s' : Nat} {e e' : TypeId} {v v' : Value} {xs xs' : List Value} (h : W.ownsRow base e s v n xs) (h' : W.ownsRow base' e' s' v' n' xs') (hne : e ≠ e') (b : Nat) (hb : v.ownBlock = some b) : v'.ownBlock ≠ some b := by
  intro hb'
  rcases h.2 with ⟨rfl, _⟩ | ⟨g, cap, cur, rfl, _, hg, _⟩
  · simp [Value.ownBlock] at hb
  · rcases h'.2 with ⟨rfl, _⟩ | ⟨g', cap', cur', rfl, _, hg', _⟩
    · simp [Value.ownBlock] at hb'
    · simp [Value.ownBlock] at hb hb'
      subst hb hb'
      rw [hg] at hg'
      injection hg' with hg'
      injection hg' with _ h2 _
      exact hne h2
/-- While the files are read. -/
def AgI (w : World) (db : Nat) (d : Dk) (fv wv : Value) (i : Nat) (W : World) : Prop := ∃ K vs, Ls w K db d W ∧ TxR w K fv (namesD d) W ∧ WasR w K wv (((namesD d).take i).map (readL d)) vs W ∧ i ≤ (namesD d).length
theorem AgI.below {w : World} {db : Nat} {d : Dk} {fv wv : Value} {i : Nat} {W W' : World} (h : AgI w db d fv wv i W) (b : Below W.heap.size W W') : AgI w db d fv wv i W' := by
  obtain ⟨K, vs, h1, h2, h3, h4⟩ := h
  exact ⟨K, vs, h1.below b, h2.below b, h3.kt (Kt.below b), h4⟩
/-- A name among them. -/
theorem AgI.name {w : World} {db : Nat} {d : Dk} {fa : Option Addr} {fn fc : Nat} {wv : Value} {i : Nat} {W : World} (h : AgI w db d (.slice fa fn fc) wv i W) : Below w.heap.size w W ∧ fn = (namesD d).length ∧ ∀ j (hj : j < (namesD d).length), ∃ q, fa = some ⟨q, 0, none⟩ ∧ W.cell? ⟨q, j, none⟩ = some (sv (namesD d)[j]) := by
  obtain ⟨K, vs, h1, h2, h3, h4⟩ := h
  obtain ⟨a, c, e, _, _, q⟩ := row_form h2.row
  injection e with e1 e2 e3
  subst e1
  refine ⟨h1.bl, e2, fun j hj => ?_⟩
  rcases q with ⟨_, q0, _⟩ | ⟨g, rfl, _, _, hc⟩
  · omega
  · exact ⟨g, rfl, hc j _ (by rw [List.getElem?_map, List.getElem?_eq_getElem hj]; rfl)⟩
/-- One more is read, and kept. -/
theorem AgI.read {w : World} {db : Nat} {d : Dk} {fv wv : Value} {i : Nat} {W : World} (h : AgI w db d fv wv i W) (hc : Crashed d) (hi : i < (namesD d).length) : Calls Try.prog 8 #[.pointer (some ⟨db, 0, none⟩), sv (namesD d)[i]] W fun e w' => ∃ a m c wa wc vs, e = .returned (.tuple #[.slice a m c, .int .i64 0]) ∧ (0 < m ∧ m ≤ c ∧ c ≤ 9223372036854775807) ∧ wv = .slice wa i wc ∧ i ≤ wc ∧ wc ≤ 9223372036854775807 ∧ i < 256 ∧ (w'.alloc (.cells #[.slice a m c] 27)).ownsRow w.heap.size 27 1 wv i vs ∧ Lies (w'.alloc (.cells #[.slice a m c] 27)) (.slice (some ⟨w'.heap.size, 0, none⟩) 1 1) 1 [.slice a m c] ∧ w.heap.size ≤ (w'.alloc (.cells #[.slice a m c] 27)).heap.size ∧ Hid (∀ v' w5, w5.ownsRow w.heap.size 27 1 v' (i + 1) (vs ++ [.slice a m c]) → Step (w'.alloc (.cells #[.slice a m c] 27)) wv w5 v' → AgI w db d fv v' (i + 1) w5) := by
  obtain ⟨K, vs, h1, h2, h3, h4⟩ := h
  obtain ⟨e0, hne⟩ := hc.read (List.getElem_mem hi)
  have hnf := h1.dk.nf
  have hnl : (namesD d).length = d.fs.length := by simp [namesD]
  have hli : (((namesD d).take i).map (readL d)).length = i := by simp; omega
  refine (read15_any h1.dk (namesD d)[i]).mono fun e w' ⟨v, e1, H⟩ => ?_
  obtain ⟨H1, H2⟩ := H.out
  obtain ⟨a, c, rfl, q1, q2, _⟩ := row_form H1
  unfold maxLen at q2
  have hrow := h3.row
  rw [hli] at hrow
  obtain ⟨wa, wc, ew, p1, p2, _⟩ := row_form hrow
  unfold maxLen at p2
  have hb2 : Below w'.heap.size w' (w'.alloc (.cells #[.slice a (readL d (namesD d)[i]).length c] 27)) := (Below.refl _ w').alloc (Nat.le_refl _) _
  have hb3 := H2.trans (hb2.mono H2.size)
  refine ⟨a, _, c, wa, wc, vs, by rw [e1, e0], ⟨List.length_pos_iff.2 hne, q1, by omega⟩, ew, p1, by omega, by omega, row_below2 hrow hb3, .inr ⟨_, _, rfl, fun j u hu => ?_⟩, Nat.le_trans h1.bl.size hb3.size, hidb fun v' w5 h5 hs => ?_⟩
  · rw [Addr.add_lit, Lib.cell_of_heap (heap_alloc_new w' _)]
    cases j with
    | zero => simpa using hu
    | succ j => simp at hu
  -- the new set of kept blocks
  let X := w'.alloc (.cells #[.slice a (readL d (namesD d)[i]).length c] 27)
  have hX : X = w'.alloc (.cells #[.slice a (readL d (namesD d)[i]).length c] 27) := rfl
  let R : Nat → Prop := fun k => (K k ∨ (Value.slice a (readL d (namesD d)[i]).length c).ownBlock = some k) ∨ v'.ownBlock = some k
  have hL1 : Ls w (fun k => K k ∨ (Value.slice a (readL d (namesD d)[i]).length c).ownBlock = some k) db d w' := ⟨h1.dk.more H2 _ fun k hk => H1.lt k hk, h1.bl.trans (H2.mono h1.bl.size), fun k hk => .inl (h1.kl k hk)⟩
  have hL2 := hL1.below hb2
  have hnew : ∀ k, v'.ownBlock = some k → K k ∨ ((w'.alloc (.cells #[.slice a (readL d (namesD d)[i]).length c] 27)).heap.size ≤ k ∧ k < w5.heap.size) := fun k hk => by
    rcases hs.2 with e | ⟨g, e, hg⟩
    · exact .inl (h3.k k (e ▸ hk))
    · rw [e] at hk; injection hk with hk; subst hk
      exact .inr ⟨hg, (h5.lt g e).2⟩
  have hturn : ∀ k, k < (w'.alloc (.cells #[.slice a (readL d (namesD d)[i]).length c] 27)).heap.size → wv.ownBlock ≠ some k → w5.heap[k]? = (w'.alloc (.cells #[.slice a (readL d (namesD d)[i]).length c] 27)).heap[k]? := fun k hk hn => hs.1.block k hk fun e => hn e.symm
  have hwlt : ∀ k, wv.ownBlock = some k → w.heap.size ≤ k ∧ k < W.heap.size := fun k hk => hrow.lt k hk
  have kt5 : ∀ (b : Nat), b < W.heap.size → wv.ownBlock ≠ some b → w5.heap[b]? = W.heap[b]? := fun b hb hn => (hturn b (Nat.lt_of_lt_of_le hb hb3.size) hn).trans (hb3.block b hb)
  have hdk5 : DkAt R db d w5 := hL2.dk.turn hs.1.size (fun k hk hn => hturn k hk fun e => hn (.inl (h3.k k e))) fun k hk => by
    rcases hk with hk | hk
    · exact .inl hk
    · rcases hnew k hk with x | x
      · exact .inl (.inl x)
      · exact .inr x
  have hbl5 : Below w.heap.size w w5 := hL2.bl.trans ⟨hs.1.os, hs.1.tape, hs.1.output, hs.1.size, fun k hk => hturn k (Nat.lt_of_lt_of_le hk hL2.bl.size) fun e => by have := (hwlt k e).1; omega⟩
  refine ⟨R, vs ++ [.slice a (readL d (namesD d)[i]).length c], ⟨hdk5, hbl5, fun k hk => .inl (.inl (h1.kl k hk))⟩, ⟨?_, fun b hb => .inl (.inl (h2.k b hb))⟩, ⟨?_, fun b hb => .inr hb, fun j hj => ?_⟩, by omega⟩
  · exact row_keep h2.row fun b hb => kt5 b (h2.row.lt b hb).2 (row_ne h2.row hrow (by decide) b hb)
  · have e : (((namesD d).take (i + 1)).map (readL d)).length = i + 1 := by simp; omega
    rw [e]
    exact h5
  · have hvl : vs.length = i := by have := hrow.1; omega
    by_cases hji : j < i
    · obtain ⟨a', n', c', x1, x2⟩ := h3.each j (by rw [hli]; exact hji)
      refine ⟨a', n', c', by rw [List.getElem?_append_left (by omega)]; exact x1, ?_⟩
      have e2 : (((namesD d).take (i + 1)).map (readL d))[j] = (((namesD d).take i).map (readL d))[j]'(by rw [hli]; exact hji) := by
        simp
      rw [e2]
      exact ⟨row_keep x2.row fun b hb => kt5 b (x2.row.lt b hb).2 (row_ne x2.row hrow (by decide) b hb), fun b hb => .inl (.inl (x2.k b hb))⟩
    · have hj2 : j = i := by simp at hj; omega
      subst hj2
      refine ⟨a, _, c, by rw [List.getElem?_append_right (by omega), hvl, Nat.sub_self]; rfl, ?_⟩
      have e2 : (((namesD d).take (j + 1)).map (readL d))[j] = readL d (namesD d)[j] := by
        simp
      rw [e2]
      have hr2 := row_below2 H1 hb2
      have hrow2 := row_below2 hrow hb3
      exact ⟨row_base (row_keep hr2 fun b hb => hturn b (hr2.lt b hb).2 (row_ne hr2 hrow2 (by decide) b hb)), fun b hb => .inl (.inr hb)⟩
end Go.Proofs.Ytghhhlbpolhkhaa
