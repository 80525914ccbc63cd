/- Layer 15: Files; rows of texts held against one another. -/
import Derived.Test.YtghhhlbpolhkhaaJB
import Derived.BigQuiet
namespace Go.Proofs.Ytghhhlbpolhkhaa
open Go.RowKit
def namesD (d : Dk) : List Bt := d.fs.map Fl.name
set_option maxRecDepth 100000 in
set_option maxHeartbeats 2000000 in
theorem files15_any {K : Nat → Prop} {db : Nat} {d : Dk} {w : World} (h : DkAt K db d w) : Calls Try.prog 12 #[.pointer (some ⟨db, 0, none⟩)] w fun e w' => ∃ a n c, e = .returned (.slice a n c) ∧ n ≤ c ∧ c ≤ 9223372036854775807 ∧ Hid (n = (namesD d).length ∧ w'.ownsRow w.heap.size 9 1 (.slice a n c) n (svs (namesD d)) ∧ Below w.heap.size w w') := by
  obtain ⟨vb, fsv, zs, h1, h2, h3, h4⟩ := h
  have cd := h1.cd
  have c1 := h1.c1
  have hnf := h1.nf
  have HM := hidb (made15_any db vb w cd)
  obtain ⟨a, c, rfl, hc1, hc2⟩ := h1.form
  have HN : Hid (namesD d = zs.map fun z => z.2.name) := hidb (by unfold namesD; rw [← h2, List.map_map]; rfl)
  have HA : Hid (∀ W i, Below w.heap.size w W → i < zs.length → ∃ q fb x, a = some ⟨q, 0, none⟩ ∧ W.cell? ⟨q, i, none⟩ = some (.pointer (some ⟨fb, 0, none⟩)) ∧ W.cell? ⟨fb, 0, none⟩ = some (sv x) ∧ (zs.map fun z => z.2.name)[i]? = some x) := hidb fun W i hb hi => by
    obtain ⟨q, c', e', h3', _, h4', hq⟩ := h1.at_ i hi
    injection e' with e' _ _
    exact ⟨q, _, _, e', below_keep hb _ _ h3', below_keep hb _ _ h4'.c0, by rw [List.getElem?_map, List.getElem?_eq_getElem hi]; rfl⟩
  have hlen : (zs.map fun z => z.2.name).length = zs.length := by simp
  clear h1 h2 h3 h4
  generalize (zs.map fun z => z.2.name) = L at *
  generalize hzn : zs.length = n at *
  clear hzn
  go_enter Try.func12, Try.ntmps12
  go_wp2_with (go_at_call 20; refine HM.out.mono ?_; clear HM; rintro e w1 ⟨rfl, e1⟩; obtain rfl := e1.symm)
  have Hlen := hidb hlen
  clear hlen
  go_loopw [3, 17] (fun wv iv wr => ∃ i : Nat, iv = .int .i64 i ∧ i ≤ n ∧ ∃ wa wc, wv = .slice wa i wc ∧ i ≤ wc ∧ wc ≤ 9223372036854775807 ∧ Hid (wr.ownsRow w.heap.size 9 1 wv i (svs (L.take i)) ∧ Below w.heap.size w wr)) (fun _ iv _ => n - (intOf iv).toNat)
  case atStart => exact ⟨0, rfl, by omega, _, _, rfl, by omega, by omega, hidb ⟨World.ownsRow_nil _ _ _ _, Below.refl _ _⟩⟩
  case round =>
    obtain ⟨i, rfl, hi, wa, wc, rfl, hw1, hw2, HI⟩ := hrel
    by_cases hlt : i < n
    · obtain ⟨q, fb, x, rfl, x0, x1, hx⟩ := HA.out wr i HI.out.2 hlt
      have hbl := (Below.refl _ wr).alloc (Nat.le_refl _) (.cells #[sv x] 9)
      have HR : Hid ((wr.alloc (.cells #[sv x] 9)).ownsRow w.heap.size 9 1 (.slice wa i wc) i (svs (L.take i)) ∧ Lies (wr.alloc (.cells #[sv x] 9)) (.slice (some ⟨wr.heap.size, 0, none⟩) 1 1) 1 [sv x] ∧ w.heap.size ≤ (wr.alloc (.cells #[sv x] 9)).heap.size ∧ ∀ v' w5, w5.ownsRow w.heap.size 9 1 v' (i + 1) (svs (L.take i) ++ [sv x]) → Step (wr.alloc (.cells #[sv x] 9)) (.slice wa i wc) w5 v' → w5.ownsRow w.heap.size 9 1 v' (i + 1) (svs (L.take (i + 1))) ∧ Below w.heap.size w w5) := hidb (by
        refine ⟨row_below2 HI.out.1 hbl, .inr ⟨_, _, rfl, fun j u hu => ?_⟩, Nat.le_trans HI.out.2.size hbl.size, fun v' w5 h5 hs => ⟨?_, ?_⟩⟩
        · rw [Addr.add_lit, Lib.cell_of_heap (heap_alloc_new wr _)]
          cases j with
          | zero => simpa using hu
          | succ j => simp at hu
        · have e : L.take (i + 1) = L.take i ++ [x] := by rw [List.take_add_one, hx]; rfl
          rw [e, show svs (L.take i ++ [x]) = svs (L.take i) ++ [sv x] from List.map_append ..]
          exact h5
        · refine (HI.out.2.trans (hbl.mono HI.out.2.size)).trans ⟨hs.1.os, hs.1.tape, hs.1.output, hs.1.size, fun k hk => hs.1.block k (Nat.lt_of_lt_of_le hk (HI.out.2.trans (hbl.mono HI.out.2.size)).size) fun e => ?_⟩
          have := (HI.out.1.lt k e.symm).1
          omega)
      clear HI hbl
      obtain ⟨h31, h32, h33, h34⟩ := HR.out
      have H34 := hidb h34
      clear HR h34
      go_wp2_with (first
        | (at_builtin; refine wpList_appN _ rfl _ _ 34 rfl elemS15 w.heap.size _ i (svs (L.take i)) rfl h31 _ rfl 1 [sv x] h32 rfl (by simp [Value.oneCell']) (by unfold maxLen; omega) (by omega) h33 ?_; intro v' w5 hr5 hs5; have H5 := hidb (H34.out v' w5 hr5 hs5); obtain ⟨a5, c5, e5, hc5, hc6, _⟩ := row_form hr5; subst e5; unfold maxLen at hc6)
        | fail)
      exact ⟨⟨i + 1, by go_num, by omega, a5, c5, rfl, by omega, by omega, H5⟩, by simp [intOf]; omega⟩
    · have e : i = n := by omega
      subst e
      have HE : Hid ((wr.ownsRow w.heap.size 9 1 (.slice wa i wc) i (svs (namesD d)) ∧ Below w.heap.size w wr) ∧ i = (namesD d).length) := hidb (by
        rw [HN.out]
        have := HI.out
        rw [List.take_of_length_le (Nat.le_of_eq Hlen.out)] at this
        exact ⟨this, Hlen.out.symm⟩)
      clear HI HA HN
      go_wp2_with fail
      go_ret
      exact ⟨wa, _, wc, rfl, hw1, hw2, hidb ⟨HE.out.2, HE.out.1.1, HE.out.1.2⟩⟩
theorem StrAt.row {W : World} {base n : Nat} {a : Option Addr} {c : Nat} {L : List Bt} (h : W.ownsRow base 9 1 (.slice a n c) n (svs L)) : StrAt W a L ∧ n = L.length := by
  obtain ⟨a', c', e, _, _, h3⟩ := row_form h
  injection e with e1 _ _
  subst e1
  have hl : n = L.length := by have := h.1; simp at this; omega
  refine ⟨?_, hl⟩
  rcases h3 with ⟨_, h0, _⟩ | ⟨g, e, _, hg, hc⟩
  · exact .inl (List.eq_nil_of_length_eq_zero (by omega))
  · exact .inr ⟨g, 0, e, hg, fun j hj => by rw [Nat.zero_add]; exact hc j _ (by rw [List.getElem?_map, List.getElem?_eq_getElem hj]; rfl)⟩
set_option maxRecDepth 100000 in
set_option maxHeartbeats 2000000 in
/-- Two rows of the same texts. -/
theorem texts_same (a b : Option Addr) (n c m : Nat) (L : List Bt) (w : World) (hl : n = L.length) (ha : StrAt w a L) (hb : StrAt w b L) (hn : n ≤ 9223372036854775807) : Calls Try.prog 19 #[.slice a n c, .slice b n m] w fun e w' => e = .returned (.bool true) ∧ ∃ k, w' = w.drewN k := by
  have HA : Hid (∀ i, i < n → ∃ p po q qo x, a = some ⟨p, po, none⟩ ∧ b = some ⟨q, qo, none⟩ ∧ w.cell? ⟨p, po + i, none⟩ = some (sv x) ∧ w.cell? ⟨q, qo + i, none⟩ = some (sv x)) := hidb fun i hi => by
    obtain ⟨p, po, e1, c1⟩ := ha.at_ (Below.refl _ _) i (by omega)
    obtain ⟨q, qo, e2, c2⟩ := hb.at_ (Below.refl _ _) i (by omega)
    exact ⟨p, po, q, qo, _, e1, e2, c1, c2⟩
  clear ha hb hl
  go_enter Try.func19, Try.ntmps19
  go_wp2_with fail
  go_loopw [5] (fun iv wr => ∃ i : Nat, iv = .int .i64 i ∧ i ≤ n ∧ ∃ k, wr = w.drewN k) (fun iv _ => n - (intOf iv).toNat)
  case atStart => exact ⟨0, rfl, by omega, 0, rfl⟩
  case round =>
    obtain ⟨i, rfl, hi, k, rfl⟩ := hrel
    by_cases hlt : i < n
    · obtain ⟨p, po, q, qo, x, rfl, rfl, c1, c2⟩ := HA.out i hlt
      clear HA
      go_wp2_with fail
      go_quiet (fail)
      go_wp2_with fail
      exact ⟨⟨i + 1, by go_num, by omega, _, rfl⟩, by simp [intOf]; omega⟩
    · have e : i = n := by omega
      subst e
      clear HA
      go_wp2_with fail
      go_ret
      exact ⟨rfl, _, rfl⟩
end Go.Proofs.Ytghhhlbpolhkhaa
