/- Layer 15: while a law goes on: the disk, rows that are kept, texts that came in, a set of ints; Write of any name. -/
import Derived.Test.YtghhhlbpolhkhaaEUo
import Derived.Test.YtghhhlbpolhkhaaEY
import Derived.Test.YtghhhlbpolhkhaaEO
namespace Go.Proofs.Ytghhhlbpolhkhaa
open Go.RowKit
/-- While files are written. -/
structure Ls (w : World) (K : Nat → Prop) (db : Nat) (d : Dk) (W : World) : Prop where
  dk : DkAt K db d W
  bl : Below w.heap.size w W
  kl : ∀ k, k < w.heap.size → K k
theorem Ls.next {w : World} {K : Nat → Prop} {db : Nat} {d d' : Dk} {W W' : World} (h : Ls w K db d W) (k : DkEnd K db d' W W') : Ls w K db d' W' := ⟨k.1, h.bl.trans (k.2.low h.bl.size fun i hi x => x (h.kl i hi)), h.kl⟩
theorem Ls.below {w : World} {K : Nat → Prop} {db : Nat} {d : Dk} {W W' : World} (h : Ls w K db d W) (k : Below W.heap.size W W') : Ls w K db d W' := ⟨h.dk.below k, h.bl.trans (k.mono h.bl.size), h.kl⟩
/-- The rows that were read. -/
structure Rd (K : Nat → Prop) (v : Value) (S : List Sec) (W : World) : Prop where
  row : W.ownsRow 0 48 2 v S.length (secCs S)
  k : ∀ b, v.ownBlock = some b → K b
theorem Rd.kt {K : Nat → Prop} {v : Value} {S : List Sec} {W W' : World} (h : Rd K v S W) (k : Kt (fun i => ¬ K i) W W') : Rd K v S W' := ⟨row_keep h.row fun b hb => k.block b (h.row.lt b hb).2 (fun x => x (h.k b hb)), h.k⟩
theorem Rd.mono {K R : Nat → Prop} {v : Value} {S : List Sec} {W : World} (h : Rd K v S W) (hr : ∀ k, K k → R k) : Rd R v S W := ⟨h.row, fun b hb => hr b (h.k b hb)⟩
theorem row_base {w : World} {base n size : Nat} {e : TypeId} {v : Value} {xs : List Value} (h : w.ownsRow base e size v n xs) : w.ownsRow 0 e size v n xs := by
  refine ⟨h.1, ?_⟩
  rcases h.2 with h2 | ⟨g, cap, cur, e, _, r⟩
  · exact .inl h2
  · exact .inr ⟨g, cap, cur, e, Nat.zero_le _, r⟩
/-- A read adds a row to what is kept. -/
theorem Ls.read {w : World} {K : Nat → Prop} {db : Nat} {d : Dk} {W : World} (h : Ls w K db d W) (name : Bt) : Calls Try.prog 8 #[.pointer (some ⟨db, 0, none⟩), sv name] W fun e w' => ∃ a n c er, e = .returned (.tuple #[.slice a n c, .int .i64 er]) ∧ n ≤ c ∧ Hid (n = (readL d name).length ∧ ∃ R : Nat → Prop, (∀ k, K k → R k) ∧ Ls w R db d w' ∧ Rd R (.slice a n c) (readL d name) w' ∧ Kt (fun i => ¬ K i) W w') := by
  refine (read15_any h.dk name).mono fun e w' ⟨v, e1, H⟩ => ?_
  obtain ⟨H1, H2⟩ := H.out
  obtain ⟨a, c, rfl, h1, h2, _⟩ := row_form H1
  refine ⟨a, _, c, _, e1, h1, hidb ⟨rfl, fun k => K k ∨ (Value.slice a (readL d name).length c).ownBlock = some k, fun k hk => .inl hk, ⟨?_, h.bl.trans (H2.mono h.bl.size), fun k hk => .inl (h.kl k hk)⟩, ⟨row_base H1, fun b hb => .inr hb⟩, Kt.below H2⟩⟩
  exact h.dk.more H2 _ fun k hk => H1.lt k hk
/-- Sectors lie there. -/
def SecAt (W : World) (a : Option Addr) (S : List Sec) : Prop := ∀ k y, S[k]? = some y → ∃ q, a = some ⟨q, 0, none⟩ ∧ q < W.heap.size ∧ W.cell? ⟨q, k * 2, none⟩ = some (sv y.b) ∧ W.cell? ⟨q, k * 2 + 1, none⟩ = some (.bool y.bad)
theorem Rd.sec {K : Nat → Prop} {a : Option Addr} {n c : Nat} {S : List Sec} {W : World} (h : Rd K (.slice a n c) S W) : SecAt W a S ∧ n = S.length := by
  obtain ⟨a', c', e, h1, _, h3⟩ := row_form h.row
  injection e with e1 e2 e3
  subst e1
  refine ⟨fun k y hy => ?_, e2⟩
  rcases h3 with ⟨_, h0, _⟩ | ⟨g, e, _, hg, hc⟩
  · have := (List.getElem?_eq_some_iff.1 hy).1; omega
  · exact ⟨g, e, hg, hc _ _ (secCs_at hy).1, hc _ _ (secCs_at hy).2⟩
theorem SecAt.below {a : Option Addr} {S : List Sec} {W W' : World} (h : SecAt W a S) (b : Below W.heap.size W W') : SecAt W' a S := fun k y hy => by
  obtain ⟨q, e, hq, c1, c2⟩ := h k y hy
  exact ⟨q, e, Nat.lt_of_lt_of_le hq b.size, (b.cell (p := ⟨q, k * 2, none⟩) hq).trans c1, (b.cell (p := ⟨q, k * 2 + 1, none⟩) hq).trans c2⟩
theorem elemS15 : ElemN Try.prog 34 9 1 16 := ⟨Try.underlying34, by refine ⟨_, _, rfl, rfl, rfl, rfl, rfl⟩, by omega⟩
/-- The disk keeps what it is while other blocks turn. -/
theorem DkAt.turn {K R : Nat → Prop} {db : Nat} {d : Dk} {w w' : World} (h : DkAt K db d w) (hz : w.heap.size ≤ w'.heap.size) (hb : ∀ k, k < w.heap.size → ¬ K k → w'.heap[k]? = w.heap[k]?) (hR : ∀ k, R k → K k ∨ (w.heap.size ≤ k ∧ k < w'.heap.size)) : DkAt R db d w' := by
  obtain ⟨vb, fsv, zs, h1, h2, h3, h4⟩ := h
  refine ⟨vb, fsv, zs, h1.keep fun k hk => hb k (h1.lts k hk) (h3 k hk), h2, fun k hk hk2 => ?_, fun k hk => ?_⟩
  · rcases hR k hk2 with x | x
    · exact h3 k hk x
    · have := h1.lts k hk; omega
  · rcases hR k hk with x | x
    · exact Nat.lt_of_lt_of_le (h4 k x) hz
    · exact x.2
abbrev svs (l : List Bt) : List Value := l.map fun b => sv b
/-- A row of texts of the call's own. -/
structure TxR (w : World) (K : Nat → Prop) (v : Value) (want : List Bt) (W : World) : Prop where
  row : W.ownsRow w.heap.size 9 1 v want.length (svs want)
  k : ∀ b, v.ownBlock = some b → K b
theorem TxR.nil (w : World) (K : Nat → Prop) (W : World) : TxR w K (.slice none 0 0) [] W := ⟨World.ownsRow_nil _ _ _ _, fun b h => by simp [Value.ownBlock] at h⟩
theorem TxR.kt {w : World} {K : Nat → Prop} {v : Value} {S : List Bt} {W W' : World} (h : TxR w K v S W) (k : Kt (fun i => ¬ K i) W W') : TxR w K v S W' := ⟨row_keep h.row fun b hb => k.block b (h.row.lt b hb).2 (fun x => x (h.k b hb)), h.k⟩
theorem TxR.below {w : World} {K : Nat → Prop} {v : Value} {S : List Bt} {W W' : World} (h : TxR w K v S W) (k : Below W.heap.size W W') : TxR w K v S W' := ⟨row_below2 h.row k, h.k⟩
/-- A text more. -/
theorem TxR.push {w : World} {K : Nat → Prop} {db : Nat} {d : Dk} {v v' : Value} {want : List Bt} {W W2 W5 : World} {b : Bt} (h : Ls w K db d W) (hr : TxR w K v want W) (hb : Below W.heap.size W W2) (h5 : W5.ownsRow w.heap.size 9 1 v' (want.length + 1) (svs want ++ [sv b])) (hs : Step W2 v W5 v') : ∃ R : Nat → Prop, (∀ k, K k → R k) ∧ Ls w R db d W5 ∧ TxR w R v' (want ++ [b]) W5 := by
  have h2 := h.below hb
  have hnew : ∀ k, v'.ownBlock = some k → K k ∨ (W2.heap.size ≤ k ∧ k < W5.heap.size) := fun k hk => by
    rcases hs.2 with e | ⟨g, e, hg⟩
    · exact .inl (hr.k k (e ▸ hk))
    · rw [e] at hk; injection hk with hk; subst hk
      exact .inr ⟨hg, (h5.lt g e).2⟩
  refine ⟨fun k => K k ∨ v'.ownBlock = some k, fun k hk => .inl hk, ⟨h2.dk.turn hs.1.size (fun k hk hn => hs.1.block k hk fun e => hn (hr.k k e.symm)) (fun k hk => hk.elim .inl (hnew k)), ?_, fun k hk => .inl (h.kl k hk)⟩, ⟨?_, fun k hk => .inr hk⟩⟩
  · refine h2.bl.trans ⟨hs.1.os, hs.1.tape, hs.1.output, hs.1.size, fun k hk => hs.1.block k (Nat.lt_of_lt_of_le hk h2.bl.size) fun e => ?_⟩
    have := (hr.row.lt k e.symm).1
    omega
  · rw [List.length_append]
    show W5.ownsRow w.heap.size 9 1 v' (want.length + 1) (svs (want ++ [b]))
    rw [show svs (want ++ [b]) = svs want ++ [sv b] from List.map_append ..]
    exact h5
/-- Texts lie there. -/
def StrAt (W : World) (a : Option Addr) (L : List Bt) : Prop := L = [] ∨ ∃ b off, a = some ⟨b, off, none⟩ ∧ b < W.heap.size ∧ ∀ j (h : j < L.length), W.cell? ⟨b, off + j, none⟩ = some (sv L[j])
theorem StrAt.at_ {w W : World} {a : Option Addr} {L : List Bt} (h : StrAt w a L) (k : Below w.heap.size w W) (j : Nat) (hj : j < L.length) : ∃ b off, a = some ⟨b, off, none⟩ ∧ W.cell? ⟨b, off + j, none⟩ = some (sv L[j]) := by
  rcases h with h | ⟨b, off, e, hb, h⟩
  · subst h; simp at hj
  · exact ⟨b, off, e, (k.cell (p := ⟨b, off + j, none⟩) hb).trans (h j hj)⟩
open Go.Maps
theorem own_size15 {w : World} {P : Program} {k : TypeId} {R : Value → Option (DataW Unit × List MemPlace)} {b N : Nat} {D : DataW Unit} (h : w.ownsMap P k R b N D) : w.ownsMap P k R b (Maps.size D) D := by
  obtain ⟨es, cl, h1, h2, h3, h4⟩ := h
  refine ⟨es, cl, h1, h2, ?_, h4⟩
  rw [h4]
  simp [Maps.size, length_sorted]
theorem plainElem_bool_inv15 {P : Program} {e : TypeId} (he : P.underlying e = some .bool) {v : Value} {z : DataW Unit × List MemPlace} (h : plainElem P e v = some z) : ∃ x, v = .bool x ∧ z = (.lit (.bool x), []) := by
  unfold plainElem at h
  rw [he] at h
  cases v <;> simp at h
  exact ⟨_, rfl, h.symm⟩
theorem wf_int {x : Int} (h0 : -9223372036854775808 ≤ x ∧ x ≤ 9223372036854775807) : (Lit.int .i64 x).wf = true := by
  have h1 : IntKind.i64.min = -9223372036854775808 := rfl
  have h2 : IntKind.i64.max = 9223372036854775807 := rfl
  simp only [Lit.wf, Bool.and_eq_true, decide_eq_true_eq]
  omega
/-- A set of ints in a map of the call's own. -/
def MapT (W : World) (b N : Nat) (T : Int → Bool) : Prop := ∃ D : DataW Unit, W.ownsMap Try.prog 3 (plainElem Try.prog 4) b (Maps.size D) D ∧ Maps.size D ≤ N ∧ (∀ k : Int, has D (.int .i64 k) = T k) ∧ ∀ k : Int, T k = true → ∀ z, D.atKey (.int .i64 k) z = .lit (.bool true)
theorem MapT.lt {w : World} {b n : Nat} {T : Int → Bool} (h : MapT w b n T) : b < w.heap.size := by obtain ⟨D, h, _⟩ := h; exact h.lt
theorem MapT.keep {w w' : World} {b n : Nat} {T : Int → Bool} (h : MapT w b n T) (e : w'.heap[b]? = w.heap[b]?) : MapT w' b n T := by
  obtain ⟨D, ⟨es, cl, h1, h2⟩, h3⟩ := h
  exact ⟨D, ⟨es, cl, e.trans h1, h2⟩, h3⟩
theorem MapT.more {w : World} {b n m : Nat} {T : Int → Bool} (h : MapT w b n T) (e : n ≤ m) : MapT w b m T := by
  obtain ⟨D, h1, h2, h3⟩ := h
  exact ⟨D, h1, Nat.le_trans h2 e, h3⟩
theorem MapT.new (w : World) : MapT (w.alloc (.map #[] 0)) w.heap.size 0 (fun _ => false) :=
  ⟨.map [], World.ownsMap_made w _ _ _, Nat.le_refl _, fun k => rfl, fun k h => by cases h⟩
theorem MapT.at {w : World} {b n : Nat} {T : Int → Bool} (h : MapT w b n T) (k : Int) (hk : -9223372036854775808 ≤ k ∧ k ≤ 9223372036854775807) : (Instr.lookup 46 (.map (some b)) (.int .i64 k) false).run Try.prog w = .ok (.bool (T k)) w := by
  obtain ⟨D, h1, _, h2, h3⟩ := h
  have hz : (zeroValue 4).run Try.prog w = .ok (.bool false) w := by kernel_rfl
  obtain ⟨v, ps, hr, hv⟩ := h1.lookup (t := 46) int_key15 Try.underlying46 hz (plainElem_bool Try.underlying4 false) (keyOf_int_mk Try.underlying3 (wf_int hk))
  obtain ⟨x, rfl, hx⟩ := plainElem_bool_inv15 Try.underlying4 hv
  rw [hr]
  have hc := congrArg Prod.fst hx
  simp only at hc
  cases e : T k with
  | false =>
    have hn := h2 k
    rw [e] at hn
    rw [atKey_of_not_has hn] at hc
    cases hc
    rfl
  | true =>
    rw [h3 k e] at hc
    cases hc
    rfl
theorem MapT.put {w : World} {b n : Nat} {T : Int → Bool} (h : MapT w b n T) (hn : n ≤ 1000) (k : Int) (hk : -9223372036854775808 ≤ k ∧ k ≤ 9223372036854775807) :
    ∃ w', (Instr.mapUpdate 46 (.map (some b)) (.int .i64 k) (.bool true)).run Try.prog w = .ok () w' ∧ MapT w' b (n + 1) (fun x => x == k || T x) ∧ w.grownBy w' (some b) ∧ w'.heap.size = w.heap.size := by
  obtain ⟨D, h1, hsz, h2, h3⟩ := h
  have hkey := keyOf_int_mk (P := Try.prog) Try.underlying3 (wf_int hk)
  have hkl : WideAt.IsKeyLit (.int .i64 k) := by trivial
  obtain ⟨w', hr, h4, h5⟩ := h1.store (t := 46) int_key15 Try.underlying46 (by unfold maxLen; omega) hkey (plainElem_bool Try.underlying4 true)
  refine ⟨w', hr, ⟨_, own_size15 h4, ?_, fun x => ?_, fun x hx => ?_⟩, h5.grown, ?_⟩
  · rw [size_put (h1.tidy int_key15)]
    split <;> omega
  · by_cases e : x = k
    · subst e
      rw [has_put_same h1.isMap hkl]
      simp
    · rw [has_put_other (by intro e2; injection e2 with _ e3; exact e e3), h2 x]
      simp [e]
  · by_cases e : x = k
    · subst e
      exact fun z => atKey_put_same h1.isMap hkl _ z
    · have hs : T x = true := by simpa [e] using hx
      have ne : Lit.int .i64 x ≠ .int .i64 k := by intro e2; injection e2 with _ e3; exact e e3
      exact fun z => by rw [atKey_put_other ne]; exact h3 x hs z
  · obtain ⟨es, cl, es', cl', _, rfl⟩ := h5
    simp [ChangeMaps.setBlock]
theorem isName_long (b : Bt) (w : World) (hb : 16 < b.length) (hb2 : b.length ≤ 9223372036854775807) : Calls Try.prog 28 #[sv b] w fun e w' => e = .returned (.bool false) ∧ w' = w := by
  go_enter Try.func28, Try.ntmps28
  go_wp2_with fail
  go_ret
  exact ⟨rfl, rfl⟩
set_option maxRecDepth 100000 in
/-- Write, whatever the name. -/
theorem dwrite_all {K : Nat → Prop} {db : Nat} {d : Dk} {w : World} (h : DkAt K db d w) (name : Bt) (at_ : Int) (b : Bt) (hl : name.length ≤ 9223372036854775807) (hbl : b.length ≤ 9223372036854775807) (hat : -9223372036854775808 ≤ at_ ∧ at_ ≤ 9223372036854775807) :
    Calls Try.prog 10 #[.pointer (some ⟨db, 0, none⟩), sv name, .int .i64 at_, sv b] w fun e w' => e = .returned (.int .i64 (writeE d name at_ b)) ∧ Hid (DkEnd K db (writeD d name at_ b) w w') := by
  by_cases hs : name.length ≤ 16
  · exact dwrite_any h name at_ b (by omega) hbl hat (.inl insOk)
  obtain ⟨vb, fsv, zs, h1, h2, h3, h4⟩ := h
  have cd := h1.cd
  have HR := hidb (ready15_any h1)
  have HS : Hid (DkEnd K db d w w) := hidb ⟨⟨vb, fsv, zs, h1, h2, h3, h4⟩, Kt.refl _ _⟩
  have HN := hidb (isName_long name w (by omega) hl)
  have hnb : nameB name = false := by simp [nameB]; omega
  cases ho : d.off with
  | true =>
    rw [ho] at HR
    have HE : Hid (writeE d name at_ b = 9 ∧ writeD d name at_ b = d) := hidb (by unfold writeE writeD; rw [ho]; exact ⟨rfl, rfl⟩)
    simp only [if_true] at HR
    clear h1 h2 h3 h4 HN
    go_enter Try.func10, Try.ntmps10
    go_wp2_with (first
      | (go_at_call 25; refine HR.out.mono ?_; clear HR; rintro e w1 ⟨rfl, rfl⟩)
      | fail)
    go_ret
    rw [HE.out.1, HE.out.2]
    exact ⟨rfl, HS⟩
  | false =>
    rw [ho] at HR
    simp only [Bool.false_eq_true, if_false] at HR
    have HE : Hid (writeE d name at_ b = 1 ∧ writeD d name at_ b = d) := hidb (by unfold writeE writeD; rw [ho, if_neg (by simp), if_pos (.inl hnb), if_neg (by simp), if_pos (.inl hnb)]; exact ⟨rfl, rfl⟩)
    clear h1 h2 h3 h4
    go_enter Try.func10, Try.ntmps10
    go_wp2_with (first
      | (go_at_call 25; refine HR.out.mono ?_; clear HR; rintro e w1 ⟨rfl, rfl⟩)
      | (go_at_call 28; refine HN.out.mono ?_; clear HN; rintro e w1 ⟨rfl, rfl⟩)
      | fail)
    go_ret
    rw [HE.out.1, HE.out.2]
    exact ⟨rfl, HS⟩
section
open Go.ChangeShapes Go.WideShapes Go.ChangeAt
/-- Texts that came in. -/
theorem open_strs15 {H : Type} {enc : TypeId × Value → H} {W : World} {a0 : Option Addr} {len cap : Nat} {d0 : DataW H} {p0 : List MemPlace} (h : DataW.Trod enc Try.prog W 0 (fun _ => true) true 34 (.slice a0 len cap) d0 p0) :
    ∃ ss : List Bt, ss.length = len ∧ StrAt W a0 ss ∧ (∀ x ∈ ss, x.length ≤ 9223372036854775807) ∧ len ≤ maxLen := by
  obtain ⟨fuel, hf⟩ := h
  rcases open_strings Try.underlying34 Try.underlying9 (by kernel_rfl) hf with ⟨hcs, hx⟩ | ⟨x, l, c, zs, hcs, _, hl, hm, hz, hx, hcell, hwz⟩
  · simp [Value.cells] at hcs
    obtain ⟨rfl, rfl, rfl⟩ := hcs
    exact ⟨[], rfl, .inl rfl, (fun j h => by simp at h), by simp⟩
  · simp [Value.cells] at hcs
    obtain ⟨rfl, rfl, rfl⟩ := hcs
    simp only [if_true] at hz
    refine ⟨(zs.take len).map (·.data.toList), by simp; omega, ?_, fun y hy => ?_, by omega⟩
    · by_cases h0 : len = 0
      · left; subst h0; rfl
      · obtain ⟨b, off, spot⟩ := x
        have hspot : spot = none := by simpa [Addr.add] using World.cell?_spot (hcell 0 (by omega))
        subst hspot
        have hadd : ∀ j, (⟨b, off, none⟩ : Addr).add j = ⟨b, off + j, none⟩ := fun j => by unfold Addr.add; split <;> simp_all
        refine .inr ⟨b, off, rfl, ?_, fun j hj => ?_⟩
        · have := hcell 0 (by omega)
          rw [hadd] at this
          exact World.block_lt_of_cell? _ _ this
        have hjl : j < len := by simp at hj; omega
        have hjz : j < zs.length := by omega
        have := hcell j hjz
        rw [hadd] at this
        rw [this]
        simp [List.getD, List.getElem?_eq_getElem hjz, List.getElem_take]
    · obtain ⟨z, hz1, rfl⟩ := List.mem_map.1 hy
      exact hwz z (List.mem_of_mem_take hz1)
end
end Go.Proofs.Ytghhhlbpolhkhaa
