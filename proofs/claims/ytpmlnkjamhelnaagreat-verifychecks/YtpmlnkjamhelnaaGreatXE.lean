/- Layer 8: a map of ints to ints that lies in a block of its own. Layer 8: the walk's closure. -/
import Derived.Test.YtpmlnkjamhelnaaGreatXA
import Derived.Maps.OwnSet
import Derived.Maps.Ext
import Derived.Shelf.Abstract
namespace Go.Proofs.YtpmlnkjamhelnaaGreat
open Go.RowKit Go.Maps
theorem int_key8 : Keyed Tryz.prog 3 := int_keyed Tryz.underlying3
theorem wf_small {x : Int} (h0 : -4611686018427387904 ≤ x) (h1 : x ≤ 4611686018427387904) : (Lit.int .i64 x).wf = true := by
  have e1 : IntKind.i64.min = -9223372036854775808 := by decide
  have e2 : IntKind.i64.max = 9223372036854775807 := by decide
  simp only [Lit.wf, e1, e2, Bool.and_eq_true, decide_eq_true_eq]
  omega
/-- Block b of w is a map that holds what m says, its keys below n; S pays for what is still to be written. -/
def MapN (w : World) (b n S : Nat) (m : Nat → Option Nat) : Prop := ∃ (D : DataW Unit) (N : Nat), w.ownsMap Tryz.prog 3 (plainElem Tryz.prog 3) b N D ∧ N + 2 * white n m ≤ S ∧ S ≤ 100000 ∧
  (∀ x : Int, has D (.int .i64 x) = true → ∃ k : Nat, x = k ∧ m k ≠ none) ∧ (∀ k v : Nat, m k = some v → k < n ∧ v + white n m ≤ S ∧ has D (.int .i64 k) = true ∧ ∀ z, D.atKey (.int .i64 k) z = .lit (.int .i64 v))
theorem MapN.lt {w : World} {b n S : Nat} {m : Nat → Option Nat} (h : MapN w b n S m) : b < w.heap.size := by obtain ⟨D, N, h, _⟩ := h; exact h.lt
theorem MapN.blk {w : World} {b n S : Nat} {m : Nat → Option Nat} (h : MapN w b n S m) : ∃ es cl, w.heap[b]? = some (.map es cl) := by obtain ⟨D, N, ⟨es, cl, h, _⟩, _⟩ := h; exact ⟨es, cl, h⟩
theorem MapN.keep {w w' : World} {b n S : Nat} {m : Nat → Option Nat} (h : MapN w b n S m) (e : w'.heap[b]? = w.heap[b]?) : MapN w' b n S m := by
  obtain ⟨D, N, ⟨es, cl, h1, h2⟩, h3⟩ := h
  exact ⟨D, N, ⟨es, cl, e.trans h1, h2⟩, h3⟩
theorem MapN.new (w : World) (n : Nat) (hn : n ≤ 100) : MapN (w.alloc (.map #[] 0)) w.heap.size n (2 * n) (fun _ => none) := by
  refine ⟨.map [], 0, World.ownsMap_made w _ _ _, ?_, by omega, fun x h => ?_, fun k v h => by cases h⟩
  · have := white_max (fun _ => none) n; omega
  · simp [has] at h
theorem MapN.look {w : World} {b n S : Nat} {m : Nat → Option Nat} (h : MapN w b n S m) (k : Nat) (hk : k ≤ 100000) : (Instr.lookup 119 (.map (some b)) (.int .i64 k) true).run Tryz.prog w = .ok (.tuple #[.int .i64 ((m k).getD 0 : Nat), .bool (m k).isSome]) w := by
  obtain ⟨D, N, h1, _, _, h2, h3⟩ := h
  have hz : (zeroValue 3).run Tryz.prog w = .ok (.int .i64 0) w := by kernel_rfl
  obtain ⟨v, ps, hr, hv⟩ := h1.look_ok (t := 119) int_key8 Tryz.underlying119 hz (zd := .lit (.int .i64 0)) (zp := []) (plainElem_int Tryz.underlying3 (wf_small (by omega) (by omega))) (keyOf_int_mk Tryz.underlying3 (wf_small (x := k) (by omega) (by omega)))
  rw [hr]
  obtain ⟨c, rfl, hc, _⟩ := plainElem_int_inv Tryz.underlying3 hv
  have hc := congrArg Prod.fst hc
  simp only at hc
  cases e : m k with
  | none =>
    have hn : has D (.int .i64 k) = false := by
      cases e2 : has D (.int .i64 k) with
      | false => rfl
      | true => obtain ⟨k', e3, e4⟩ := h2 _ e2; obtain rfl : k = k' := by omega
                exact absurd e e4
    rw [atKey_of_not_has hn] at hc
    cases hc
    rw [hn]
    rfl
  | some v =>
    obtain ⟨_, _, e1, e2⟩ := h3 k v e
    rw [e2] at hc
    cases hc
    rw [e1]
    rfl
theorem MapN.at {w : World} {b n S : Nat} {m : Nat → Option Nat} (h : MapN w b n S m) (k : Nat) (hk : k ≤ 100000) : (Instr.lookup 119 (.map (some b)) (.int .i64 k) false).run Tryz.prog w = .ok (.int .i64 ((m k).getD 0 : Nat)) w := by
  obtain ⟨D, N, h1, _, _, h2, h3⟩ := h
  have hz : (zeroValue 3).run Tryz.prog w = .ok (.int .i64 0) w := by kernel_rfl
  obtain ⟨c, hr, hc, _⟩ := h1.lookup_int (t := 119) int_key8 Tryz.underlying119 Tryz.underlying3 hz (keyOf_int_mk Tryz.underlying3 (wf_small (x := k) (by omega) (by omega)))
  rw [hr]
  cases e : m k with
  | none =>
    have hn : has D (.int .i64 k) = false := by
      cases e2 : has D (.int .i64 k) with
      | false => rfl
      | true => obtain ⟨k', e3, e4⟩ := h2 _ e2; obtain rfl : k = k' := by omega
                exact absurd e e4
    rw [atKey_of_not_has hn] at hc
    cases hc
    rfl
  | some v =>
    obtain ⟨_, _, e1, e2⟩ := h3 k v e
    rw [e2] at hc
    cases hc
    rfl
/-- Only the blocks b1 and b2 have turned. -/
def Kp2 (b1 b2 : Nat) (w w' : World) : Prop := w'.os = w.os ∧ w'.tape = w.tape ∧ w'.output = w.output ∧ w.heap.size ≤ w'.heap.size ∧ ∀ k, k < w.heap.size → k ≠ b1 → k ≠ b2 → w'.heap[k]? = w.heap[k]?
theorem Kp2.refl (b1 b2 : Nat) (w : World) : Kp2 b1 b2 w w := ⟨rfl, rfl, rfl, Nat.le_refl _, fun _ _ _ _ => rfl⟩
theorem Kp2.trans {b1 b2 : Nat} {a b c : World} (h : Kp2 b1 b2 a b) (k : Kp2 b1 b2 b c) : Kp2 b1 b2 a c := ⟨k.1.trans h.1, k.2.1.trans h.2.1, k.2.2.1.trans h.2.2.1, Nat.le_trans h.2.2.2.1 k.2.2.2.1, fun i hi h1 h2 => (k.2.2.2.2 i (Nat.lt_of_lt_of_le hi h.2.2.2.1) h1 h2).trans (h.2.2.2.2 i hi h1 h2)⟩
theorem Kp2.below {b1 b2 : Nat} {w w' : World} (h : Below w.heap.size w w') : Kp2 b1 b2 w w' := ⟨h.os, h.tape, h.output, h.size, fun k hk _ _ => h.block k hk⟩
theorem Kp2.drew {b1 b2 : Nat} {w w' : World} (h : Kp2 b1 b2 w w') : Kp2 b1 b2 w w'.drew := h
theorem Kp2.set1 {b1 b2 : Nat} {w : World} {o : Nat} (u : Value) : Kp2 b1 b2 w (w.setCell ⟨b1, o, none⟩ u) := ⟨rfl, rfl, rfl, by simp [World.setCell], fun k _ h _ => Below.heap_setCell _ _ _ _ h⟩
theorem Kp2.set2 {b1 b2 : Nat} {w : World} {o : Nat} (u : Value) : Kp2 b1 b2 w (w.setCell ⟨b2, o, none⟩ u) := ⟨rfl, rfl, rfl, by simp [World.setCell], fun k _ _ h => Below.heap_setCell _ _ _ _ h⟩
theorem Kp2.grown {b1 b2 : Nat} {w w' : World} (h : w.grownBy w' (some b1)) : Kp2 b1 b2 w w' := ⟨h.os, h.tape, h.output, h.size, fun k hk h1 _ => h.block k hk (fun e => h1 (by cases e; rfl))⟩
theorem Kp2.cell {b1 b2 : Nat} {w w' : World} (h : Kp2 b1 b2 w w') {a : Addr} {v : Value} (hv : w.cell? a = some v) (h1 : a.block ≠ b1) (h2 : a.block ≠ b2) : w'.cell? a = some v := (World.cell?_of_block (h.2.2.2.2 _ (World.block_lt_of_cell? w a hv) h1 h2)).trans hv
theorem Kp2.low {b1 b2 B : Nat} {w w' : World} (h : Kp2 b1 b2 w w') (h1 : B ≤ b1) (h2 : B ≤ b2) (hB : B ≤ w.heap.size) : Below B w w' := ⟨h.1, h.2.1, h.2.2.1, h.2.2.2.1, fun k hk => h.2.2.2.2 k (by omega) (by omega) (by omega)⟩
theorem MapN.put {w : World} {b n S : Nat} {m : Nat → Option Nat} (h : MapN w b n S m) (k v : Nat) (hk : k < n) (hn : n ≤ 1000) (S' : Nat) (hv : v + white n (mput m k v) ≤ S') (hS' : S' ≤ 100000) (hS : S + 1 ≤ S' ∨ m k = none ∧ S ≤ S' + 1) :
    ∃ w', (Instr.mapUpdate 119 (.map (some b)) (.int .i64 k) (.int .i64 v)).run Tryz.prog w = .ok () w' ∧ MapN w' b n S' (mput m k v) ∧ w.grownBy w' (some b) ∧ w'.heap.size = w.heap.size := by
  obtain ⟨D, N, h1, hN, hS0, h2, h3⟩ := h
  have hkey := keyOf_int_mk (P := Tryz.prog) Tryz.underlying3 (wf_small (x := k) (by omega) (by omega))
  have hkl : WideAt.IsKeyLit (.int .i64 (k : Int)) := by trivial
  obtain ⟨w', hr, h4, h5⟩ := h1.store (t := 119) int_key8 Tryz.underlying119 (by unfold maxLen; omega) hkey (plainElem_int Tryz.underlying3 (wf_small (x := v) (by omega) (by omega)))
  have hle : white n (mput m k v) ≤ white n m := white_le (fun x u hx => if e : x = k then ⟨v, by rw [e, mput_same]⟩ else ⟨u, by rw [mput_other _ _ e, hx]⟩) n
  have hw : N + 1 + 2 * white n (mput m k v) ≤ S' ∧ ∀ u, u + white n m ≤ S → u + white n (mput m k v) ≤ S' := by
    rcases hS with hS | ⟨e, hS⟩
    · exact ⟨by omega, fun u hu => by omega⟩
    · have := white_put (v := v) e n hk
      exact ⟨by omega, fun u hu => by omega⟩
  refine ⟨w', hr, ⟨_, _, h4, hw.1, hS', fun x hx => ?_, fun x u hx => ?_⟩, h5.grown, ?_⟩
  · by_cases e : x = k
    · exact ⟨k, e, by rw [mput_same]; simp⟩
    · rw [has_put_other (by intro e2; cases e2; exact e rfl)] at hx
      obtain ⟨k', e1, e2⟩ := h2 x hx
      exact ⟨k', e1, by rw [mput_other _ _ (by omega)]; exact e2⟩
  · by_cases e : x = k
    · subst e
      rw [mput_same] at hx
      cases hx
      exact ⟨hk, hv, has_put_same h1.isMap hkl _, fun z => atKey_put_same h1.isMap hkl _ z⟩
    · rw [mput_other _ _ e] at hx
      obtain ⟨e0, e3, e1, e2⟩ := h3 x u hx
      have ne : Lit.int .i64 (x : Int) ≠ .int .i64 (k : Int) := by intro e2; injection e2 with _ e3; omega
      exact ⟨e0, hw.2 _ e3, by rw [has_put_other ne]; exact e1, fun z => by rw [atKey_put_other ne]; exact e2 z⟩
  · obtain ⟨es, cl, es', cl', _, rfl⟩ := h5
    simp [ChangeMaps.setBlock]
end Go.Proofs.YtpmlnkjamhelnaaGreat
namespace Go.Proofs.YtpmlnkjamhelnaaGreat
open Go.RowKit Go.Maps
theorem mx_le {m : Nat → Option Nat} {K : Nat} : ∀ (l : List Nat) (a : Nat), a ≤ K → (∀ c ∈ l, (m c).getD 0 ≤ K) → l.foldl (fun a c => max a ((m c).getD 0)) a ≤ K
  | [], _, h, _ => h
  | c :: l, a, h, hl => mx_le l _ (Nat.max_le.2 ⟨h, hl c (by simp)⟩) fun d hd => hl d (List.mem_cons_of_mem _ hd)
/-- What lies below block B. -/
def lowC (B : Nat) (w : World) : Addr → Option Value := fun a => if a.block < B then w.cell? a else none
theorem lowC_of {B : Nat} {w : World} {a : Addr} {v : Value} (h : lowC B w a = some v) : a.block < B ∧ w.cell? a = some v := by
  unfold lowC at h
  split at h
  · exact ⟨by assumption, h⟩
  · cases h
theorem lowC_mk {B : Nat} {w : World} {a : Addr} {v : Value} (h1 : a.block < B) (h : w.cell? a = some v) : lowC B w a = some v := by unfold lowC; rw [if_pos h1]; exact h
theorem lowC_keep {B b1 b2 : Nat} {w w' : World} (h : Kp2 b1 b2 w w') (h1 : B ≤ b1) (h2 : B ≤ b2) (x : Addr) (v : Value) (hx : lowC B w x = some v) : lowC B w' x = some v := by
  obtain ⟨e1, e2⟩ := lowC_of hx
  exact lowC_mk e1 (h.cell e2 (by omega) (by omega))
def rowI (r : List Nat) : List Int := r.map Int.ofNat
def rowsI (G : List (List Nat)) : List (List Int) := G.map rowI
def gOf (G : List (List Nat)) (x : Nat) : List Nat := G.getD x []
/-- Where the walk's variables lie: the boxes of met, round, g, from; the map. -/
structure WBox where
  (B pm pr pg pf mb gc n : Nat)
  ga : Option Addr
structure WBox.ok (b : WBox) : Prop where
  (r : b.B ≤ b.pr) (m : b.B ≤ b.mb) (mr : b.pm ≠ b.pr) (gr : b.pg ≠ b.pr) (fr : b.pf ≠ b.pr) (mm : b.pm ≠ b.mb) (gm : b.pg ≠ b.mb) (fm : b.pf ≠ b.mb) (rm : b.pr ≠ b.mb) (n : b.n ≤ 1000)
def WBox.fr (b : WBox) : Array Value := #[.pointer (some ⟨b.pm, 0, none⟩), .pointer (some ⟨b.pr, 0, none⟩), .pointer (some ⟨b.pg, 0, none⟩), .pointer (some ⟨b.pf, 0, none⟩)]
structure FromSt (b : WBox) (G : List (List Nat)) (S : Nat) (m : Nat → Option Nat) (r : Bool) (w : World) : Prop where
  hm : w.heap[b.pm]? = some (.cells #[.map (some b.mb)] 119 (0, 0))
  cr : w.heap[b.pr]? = some (.cells #[.bool r] 4 (0, 0))
  cg : w.cell? ⟨b.pg, 0, none⟩ = some (.slice b.ga b.n b.gc)
  cf : w.cell? ⟨b.pf, 0, none⟩ = some (.func (.func 155) #[] b.fr)
  gs : RsAt (lowC b.B w) b.ga (rowsI G)
  map : MapN w b.mb b.n S m
theorem heap_lt {w : World} {k : Nat} {o : Obj} (h : w.heap[k]? = some o) : k < w.heap.size := (Array.getElem?_eq_some_iff.1 h).1
theorem FromSt.cm {b : WBox} {G : List (List Nat)} {S : Nat} {m : Nat → Option Nat} {r : Bool} {w : World} (h : FromSt b G S m r w) : w.cell? ⟨b.pm, 0, none⟩ = some (.map (some b.mb)) := Lib.cell_of_heap h.hm 0
theorem FromSt.turn {b : WBox} {G : List (List Nat)} {S S' : Nat} {m m' : Nat → Option Nat} {r r' : Bool} {w w' : World} (ok : b.ok) (h : FromSt b G S m r w) (k : Kp2 b.mb b.pr w w') (cr : w'.heap[b.pr]? = some (.cells #[.bool r'] 4 (0, 0))) (map : MapN w' b.mb b.n S' m') : FromSt b G S' m' r' w' :=
  ⟨(k.2.2.2.2 _ (heap_lt h.hm) ok.mm ok.mr).trans h.hm, cr, k.cell h.cg ok.gm ok.gr, k.cell h.cf ok.fm ok.fr, h.gs.keep (lowC_keep k ok.m ok.r), map⟩
def FromEnd (b : WBox) (G : List (List Nat)) (S : Nat) (m : Nat → Option Nat) (r : Bool) (f : Nat) (w : World) (e : Ending) (w' : World) : Prop :=
  ∃ m' r' d, e = .returned (.int .i64 (d : Nat)) ∧ Vis (gOf G) m r f m' r' d ∧ FromSt b G S m' r' w' ∧ Kp2 b.mb b.pr w w'
theorem natmax_ite (a b : Nat) : ((max a b : Nat) : Int) = if a < b then (b : Int) else a := by split <;> omega
theorem box_set {w : World} {p : Nat} {x u : Value} {T : TypeId} (h : w.heap[p]? = some (.cells #[x] T (0, 0))) : (w.setCell ⟨p, 0, none⟩ u).heap[p]? = some (.cells #[u] T (0, 0)) := by
  rw [heap_setCell_same _ _ _ _ _ _ h]
  rfl
set_option maxRecDepth 100000 in
set_option maxHeartbeats 1000000 in
theorem from_met (b : WBox) (ok : b.ok) (G : List (List Nat)) (S : Nat) (m : Nat → Option Nat) (r : Bool) (f d : Nat) (w : World) (h : FromSt b G S m r w) (hf : m f = some d) (hL : Led (gOf G) m f) (hfn : f ≤ 100000) :
    Calls Tryz.prog 155 (#[.int .i64 (f : Nat)] ++ b.fr) w (FromEnd b G S m r f w) := by
  have hl := h.map.look f hfn
  rw [hf] at hl
  have hcm := h.cm
  have c1 : w.cell? ⟨b.pr, 0, none⟩ = some (.bool r) := by rw [Lib.cell_of_heap h.cr]; rfl
  have c2 : w.frozen? ⟨b.pr, 0, none⟩ = false := by simp [World.frozen?, h.cr]
  have HE : Hid (∀ r', r' = (r || d == 0) → FromEnd b G S m r f w (.returned (.int .i64 (d : Nat))) (w.setCell ⟨b.pr, 0, none⟩ (.bool r'))) := hid7 fun r' hr' => by
    subst hr'
    have k2 : Kp2 b.mb b.pr w (w.setCell ⟨b.pr, 0, none⟩ (.bool (r || d == 0))) := Kp2.set2 _
    have cr' : (w.setCell ⟨b.pr, 0, none⟩ (.bool (r || d == 0))).heap[b.pr]? = some (.cells #[.bool (r || d == 0)] 4 (0, 0)) := box_set h.cr
    exact ⟨m, _, d, rfl, vis_met hf hL, h.turn ok k2 cr' (h.map.keep (Below.heap_setCell _ _ _ _ (Ne.symm ok.rm))), k2⟩
  clear h hf hL
  unfold WBox.fr
  generalize b.pm = pm at *
  generalize b.pr = pr at *
  generalize b.pg = pg at *
  generalize b.pf = pf at *
  generalize b.mb = mb at *
  show Calls Tryz.prog 155 #[.int .i64 (f : Nat), .pointer (some ⟨pm, 0, none⟩), .pointer (some ⟨pr, 0, none⟩), .pointer (some ⟨pg, 0, none⟩), .pointer (some ⟨pf, 0, none⟩)] w _
  go_enter Tryz.func155, Tryz.ntmps155
  go_wp2_with fail
  all_goals
    go_ret
    refine HE.out _ ?_
    first | (simp_all; done) | (rw [Bool.eq_iff_iff]; simp_all)
theorem row_at {B : Nat} {w : World} {ga : Option Addr} {G : List (List Nat)} (h : RsAt (lowC B w) ga (rowsI G)) {f : Nat} (hf : f < G.length) : ∃ gb go aj cj, ga = some ⟨gb, go, none⟩ ∧ gb < B ∧ w.cell? ⟨gb, go + f, none⟩ = some (.slice aj (gOf G f).length cj) ∧ NsAt (lowC B w) aj (rowI (gOf G f)) := by
  rcases h with h | ⟨gb, go, e, h⟩
  · rw [rowsI, List.map_eq_nil_iff] at h; subst h; cases hf
  · have hf2 : f < (rowsI G).length := by rw [rowsI, List.length_map]; exact hf
    obtain ⟨aj, cj, h1, h2⟩ := h f hf2
    have e2 : (rowsI G)[f] = rowI (gOf G f) := by simp [rowsI, gOf, List.getD_eq_getElem?_getD, List.getElem?_eq_getElem hf]
    rw [e2] at h1 h2
    obtain ⟨l1, l2⟩ := lowC_of h1
    rw [rowI, List.length_map] at l2
    exact ⟨gb, go, aj, cj, e, l1, l2, h2⟩
theorem row_cell {B : Nat} {w : World} {aj : Option Addr} {r : List Nat} (h : NsAt (lowC B w) aj (rowI r)) {k : Nat} (hk : k < r.length) : ∃ bj oj, aj = some ⟨bj, oj, none⟩ ∧ bj < B ∧ w.cell? ⟨bj, oj + k, none⟩ = some (.int .i64 (r[k] : Nat)) := by
  have hk2 : k < (rowI r).length := by rw [rowI, List.length_map]; exact hk
  rcases h with h | ⟨b, o, e, h⟩
  · rw [h] at hk2; cases hk2
  · have h1 := h k hk2
    obtain ⟨l1, l2⟩ := lowC_of h1
    refine ⟨b, o, e, l1, ?_⟩
    rw [l2]
    simp [rowI]
/-- While f's callees are gone through. -/
def FromLp (b : WBox) (G : List (List Nat)) (S : Nat) (m : Nat → Option Nat) (r : Bool) (f k : Nat) (most : Nat) (w w' : World) : Prop :=
  ∃ m' r', Vil (gOf G) m r f ((gOf G f).take k) m' r' most ∧ FromSt b G S m' r' w' ∧ Kp2 b.mb b.pr w w'
set_option maxRecDepth 100000 in
set_option maxHeartbeats 1000000 in
theorem from_new (b : WBox) (ok : b.ok) (G : List (List Nat)) (hG : G.length = b.n) (hI : Inn b.n (gOf G)) (S : Nat) (m : Nat → Option Nat) (r : Bool) (f : Nat) (w : World) (h : FromSt b G S m r w) (hf : m f = none) (hL : Led (gOf G) m f) (hfn : f < b.n) (hr : ∀ l ∈ G, l.length ≤ 1000)
    (ih : ∀ (S' : Nat) (m' : Nat → Option Nat) (r' : Bool) (c : Nat) (w' : World), white b.n m' < white b.n m → FromSt b G S' m' r' w' → Led (gOf G) m' c → c < b.n → Calls Tryz.prog 155 (#[.int .i64 (c : Nat)] ++ b.fr) w' (FromEnd b G S' m' r' c w')) :
    Calls Tryz.prog 155 (#[.int .i64 (f : Nat)] ++ b.fr) w (FromEnd b G S m r f w) := by
  have hn := ok.n
  have hl := h.map.look f (by omega)
  rw [hf] at hl
  have hcm := h.cm
  obtain ⟨hS1, hS2⟩ : 1 ≤ S ∧ 0 + white b.n (mput m f 0) ≤ S - 1 := by
    obtain ⟨D, N, h1, h2, h3, _⟩ := h.map
    have := white_put (v := 0) hf b.n hfn
    omega
  have hS3 : S ≤ 100000 := by obtain ⟨D, N, h1, h2, h3, _⟩ := h.map; exact h3
  obtain ⟨w1, hu1, M1, K1, z1⟩ := h.map.put f 0 hfn hn (S - 1) hS2 (by omega) (.inr ⟨hf, by omega⟩)
  replace hu1 : (Instr.mapUpdate 119 (.map (some b.mb)) (.int .i64 f) (.int .i64 0)).run Tryz.prog w = .ok () w1 := hu1
  have h1 : FromSt b G (S - 1) (mput m f 0) r w1 := h.turn ok (Kp2.grown K1) ((K1.block _ (heap_lt h.cr) (by simp; exact ok.rm)).trans h.cr) M1
  have hcg := h1.cg
  obtain ⟨gb, go, aj, cj, ega, hgb, hrow, hns⟩ := row_at h1.gs (by rw [hG]; exact hfn)
  have hcb : b.pg ≠ 0 ∨ True := .inr trivial
  have L0 : Hid (FromLp b G (S - 1) m r f 0 0 w1 w1) := hid7 ⟨_, r, vil_start, h1, Kp2.refl _ _ _⟩
  have HK1 : Hid (Kp2 b.mb b.pr w w1) := hid7 (Kp2.grown K1)
  have HF0 : Hid (m f = none) := hid7 hf
  have HLd : Hid (Led (gOf G) m f) := hid7 hL
  have HIn : Hid (Inn b.n (gOf G)) := hid7 hI
  have HNs : Hid (NsAt (lowC b.B w1) aj (rowI (gOf G f))) := hid7 hns
  have HIH := hid7 ih
  have HOk := hid7 ok
  have HFn := hid7 hfn
  have HS2 := hid7 hS2
  have hrl : (gOf G f).length ≤ 1000 := by
    unfold gOf
    rw [List.getD_eq_getElem?_getD, List.getElem?_eq_getElem (by rw [hG]; exact hfn)]
    exact hr _ (List.getElem_mem _)
  rw [ega] at hcg
  obtain ⟨pm, hpm⟩ : ∃ pm, pm = b.pm := ⟨_, rfl⟩
  obtain ⟨pr, hpr⟩ : ∃ pr, pr = b.pr := ⟨_, rfl⟩
  obtain ⟨pg, hpg⟩ : ∃ pg, pg = b.pg := ⟨_, rfl⟩
  obtain ⟨pf, hpf⟩ : ∃ pf, pf = b.pf := ⟨_, rfl⟩
  obtain ⟨mb, hmb⟩ : ∃ mb, mb = b.mb := ⟨_, rfl⟩
  obtain ⟨n, hbn⟩ : ∃ n, n = b.n := ⟨_, rfl⟩
  obtain ⟨gc, hbc⟩ : ∃ gc, gc = b.gc := ⟨_, rfl⟩
  unfold WBox.fr
  show Calls Tryz.prog 155 #[.int .i64 (f : Nat), .pointer (some ⟨b.pm, 0, none⟩), .pointer (some ⟨b.pr, 0, none⟩), .pointer (some ⟨b.pg, 0, none⟩), .pointer (some ⟨b.pf, 0, none⟩)] w _
  rw [← hpm] at hcm ⊢
  rw [← hpg, ← hbn, ← hbc] at hcg
  rw [← hmb] at hcm hl hu1
  rw [← hbn] at hfn hn
  rw [← hpr, ← hpg, ← hpf]
  obtain ⟨cl, hcl⟩ : ∃ cl, cl = (gOf G f).length := ⟨_, rfl⟩
  rw [← hcl] at hrow hrl
  have HL := hid7 hcl
  have HB := hid7 (And.intro hpm (And.intro hpr (And.intro hpg (And.intro hpf (And.intro hmb (And.intro hbn hbc))))))
  have eF : ∀ args w, (callFunc 155 args).run Tryz.prog w = .ok (.enter 155 args) w := enters_of Tryz.func155 (by kernel_rfl) rfl
  clear hpm hpr hpg hpf hmb hbn hbc hcl h h1 M1 z1 hS2 hcb ih hns hI hL hf K1 hr ok
  go_enter Tryz.func155, Tryz.ntmps155
  go_wp2_with fail
  go_loopw [9, 32] (fun v9 v32 wr => ∃ k most : Nat, v9 = .int .i64 most ∧ v32 = .int .i64 k ∧ k ≤ cl ∧ most ≤ 100000 ∧ Hid (FromLp b G (S - 1) m r f k most w1 wr)) (fun _ v32 _ => cl - (intOf v32).toNat)
  case atStart => exact ⟨0, 0, rfl, rfl, Nat.zero_le _, by omega, L0⟩
  case round =>
    obtain ⟨k, most, rfl, rfl, hk, hmo, HLp⟩ := hrel
    clear L0 hl hu1 hcm hcg hrow
    by_cases hlt : k < cl
    · have hkl : k < (gOf G f).length := by rw [← HL.out]; exact hlt
      obtain ⟨m1, r1, V1, F1, P1⟩ := HLp.out
      obtain ⟨e1, e2, e3, e4, e5, e6, e7⟩ := HB.out
      have hc := List.getElem_mem hkl
      obtain ⟨bj, oj, eaj, hbj, hcell⟩ := row_cell (HNs.out.keep (lowC_keep P1 HOk.out.m HOk.out.r)) hkl
      have hcf := F1.cf
      rw [← e4, WBox.fr, ← e1, ← e2, ← e3, ← e4] at hcf
      have hcn : (gOf G f)[k] < b.n := HIn.out f HFn.out _ hc
      have hwl : white b.n m1 < white b.n m := by
        have h1 : white b.n m1 ≤ white b.n (mput m f 0) := white_le (fun x v hx => ⟨v, V1.keep x v hx⟩) _
        have h2 := white_put (v := 0) HF0.out b.n HFn.out
        omega
      have hC := HIH.out (S - 1) m1 r1 _ wr hwl F1 (vil_led V1 HLd.out hc) hcn
      have HC : Hid (Calls Tryz.prog 155 (#[.int .i64 ((gOf G f)[k] : Nat)] ++ #[.pointer (some ⟨pm, 0, none⟩), .pointer (some ⟨pr, 0, none⟩), .pointer (some ⟨pg, 0, none⟩), .pointer (some ⟨pf, 0, none⟩)]) wr fun e w' => ∃ d : Nat, e = .returned (.int .i64 d) ∧ d ≤ 100000 ∧ Hid (FromLp b G (S - 1) m r f (k + 1) (max most d) w1 w')) := hid7 (by
        rw [WBox.fr, ← e1, ← e2, ← e3, ← e4] at hC
        refine hC.mono fun e w' ⟨m2, r2, d, h1, h2, h3, h4⟩ => ⟨d, h1, ?_, hid7 ⟨m2, r2, ?_, h3, P1.trans h4⟩⟩
        · obtain ⟨D, N, _, _, q1, _, q2⟩ := h3.map
          have := (q2 _ _ h2.here).2.1
          omega
        · rw [List.take_succ_eq_append_getElem hkl]
          exact vil_step V1 hc h2)
      generalize (gOf G f)[k] = c at *
      subst eaj
      clear hC F1 V1 P1 HIH HLp HNs hc hwl HF0 HLd HIn hcn hkl e1 e2 e3 e4 e5 e6 e7 HK1
      go_wp2_with (first | (go_at_fn 155; refine HC.out.mono ?_; clear HC; rintro e w4 ⟨d4, rfl, hd4, L4⟩) | fail)
      exact ⟨⟨k + 1, max most d4, by rw [natmax_ite], by go_num, by omega, by omega, L4⟩, by simp [intOf]; omega⟩
    · obtain rfl : k = cl := by omega
      obtain ⟨m1, r1, V1, F1, P1⟩ := HLp.out
      obtain ⟨e1, e2, e3, e4, e5, e6, e7⟩ := HB.out
      rw [HL.out, List.take_length] at V1
      have V2 := vil_end HF0.out V1
      have hb1 : most + white b.n m1 ≤ S - 1 := by
        have hw0 : white b.n m1 ≤ S - 1 := by obtain ⟨D, N, _, q1, _⟩ := F1.map; omega
        rw [V1.most]
        have := mx_le (m := m1) (K := S - 1 - white b.n m1) (gOf G f) 0 (by omega) fun c hc => by
          obtain ⟨D, N, _, _, _, _, q2⟩ := F1.map
          cases e : m1 c with
          | none => simp
          | some v => have := (q2 c v e).2.1; simp; omega
        unfold mx
        omega
      have hle : white b.n (mput m1 f (most + 1)) ≤ white b.n m1 := white_le (fun x u hx => if e : x = f then ⟨most + 1, by rw [e, mput_same]⟩ else ⟨u, by rw [mput_other _ _ e, hx]⟩) _
      obtain ⟨w2, hu2, M2, K2, z2⟩ := F1.map.put f (most + 1) HFn.out HOk.out.n S (by omega) (by omega) (.inl (by omega))
      have F2 : FromSt b G S (mput m1 f (most + 1)) r1 w2 := F1.turn HOk.out (Kp2.grown K2) ((K2.block _ (heap_lt F1.cr) (by simp; exact HOk.out.rm)).trans F1.cr) M2
      have hl2 := M2.at f (by omega)
      rw [mput_same] at hl2
      replace hl2 : (Instr.lookup 119 (.map (some b.mb)) (.int .i64 f) false).run Tryz.prog w2 = .ok (.int .i64 ((most : Int) + 1)) w2 := hl2
      replace hu2 : (Instr.mapUpdate 119 (.map (some b.mb)) (.int .i64 f) (.int .i64 ((most : Int) + 1))).run Tryz.prog wr = .ok () w2 := hu2
      have hcm1 := F1.cm
      have hcm2 := F2.cm
      rw [← e1, ← e5] at hcm1 hcm2
      rw [← e5] at hl2 hu2
      have HE : Hid (FromEnd b G S m r f w (.returned (.int .i64 ((most : Int) + 1))) w2) := hid7 ⟨_, _, most + 1, by rfl, V2, F2, (HK1.out.trans P1).trans (Kp2.grown K2)⟩
      clear F1 F2 V1 V2 M2 P1 HK1 HIH HLp HNs HF0 HLd HIn e1 e2 e3 e4 e5 e6 e7 K2 z2 hb1 hle
      go_wp2_with fail
      go_ret
      exact HE.out
/-- The walk's closure, at any function, whatever was met. -/
theorem from_any (b : WBox) (ok : b.ok) (G : List (List Nat)) (hG : G.length = b.n) (hI : Inn b.n (gOf G)) (hr : ∀ l ∈ G, l.length ≤ 1000) : ∀ (u S : Nat) (m : Nat → Option Nat) (r : Bool) (f : Nat) (w : World), white b.n m ≤ u → FromSt b G S m r w → Led (gOf G) m f → f < b.n →
    Calls Tryz.prog 155 (#[.int .i64 (f : Nat)] ++ b.fr) w (FromEnd b G S m r f w) := by
  intro u
  induction u with
  | zero =>
    intro S m r f w hu h hL hf
    have hn := ok.n
    cases e : m f with
    | some d => exact from_met b ok G S m r f d w h e hL (by omega)
    | none => have := white_put (v := 0) e b.n hf; omega
  | succ u ih =>
    intro S m r f w hu h hL hf
    have hn := ok.n
    cases e : m f with
    | some d => exact from_met b ok G S m r f d w h e hL (by omega)
    | none => exact from_new b ok G hG hI S m r f w h e hL hf hr fun S' m' r' c w' h1 h2 h3 h4 => ih S' m' r' c w' (by omega) h2 h3 h4
end Go.Proofs.YtpmlnkjamhelnaaGreat
