/- Layer 8: a set of ints that a law keeps in a map of its own. -/
import Derived.Test.YtikomfbpaimnmaaXQb
namespace Go.Proofs.Ytikomfbpaimnmaa
open Go.RowKit Go.Maps
def bput (S : Nat → Bool) (f : Nat) : Nat → Bool := fun x => x == f || S x
theorem cnt_put {S : Nat → Bool} {f : Nat} : ∀ n, f < n → cntB n (bput S f) = cntB n S + (if S f then 0 else 1)
  | 0, h => by omega
  | n + 1, h => by
    simp only [cntB]
    by_cases e : n = f
    · subst e
      have : cntB n (bput S n) = cntB n S := by
        have : ∀ k ≤ n, cntB k (bput S n) = cntB k S := by
          intro k
          induction k with
          | zero => intro _; rfl
          | succ k ih =>
            intro hk
            simp only [cntB]
            rw [ih (by omega)]
            have : bput S n k = S k := by simp [bput]; omega
            rw [this]
        exact this n (Nat.le_refl _)
      rw [this]
      have e2 : bput S n n = true := by simp [bput]
      rw [e2]
      cases S n <;> simp
    · have ih := cnt_put (S := S) (f := f) n (by omega)
      have : bput S f n = S n := by simp [bput, e]
      rw [ih, this]
      omega
theorem cnt_filter (p : Nat → Bool) : ∀ n, ((List.range n).filter p).length = cntB n p
  | 0 => rfl
  | n + 1 => by
    rw [List.range_succ, List.filter_append, List.length_append, cnt_filter p n, cntB]
    cases h : p n <;> simp [h]
theorem cnt_congr {p q : Nat → Bool} : ∀ n, (∀ x < n, p x = q x) → cntB n p = cntB n q
  | 0, _ => rfl
  | n + 1, h => by
    simp only [cntB]
    rw [cnt_congr n fun x hx => h x (by omega), h n (by omega)]
/-- Block b of w is a map of the ints below n that S tells, each with true. -/
def MapB (w : World) (b n : Nat) (S : Nat → Bool) : Prop := ∃ D : DataW Unit, w.ownsMap Try.prog 3 (plainElem Try.prog 4) b (Maps.size D) D ∧ Maps.size D = cntB n S ∧ n ≤ 1000 ∧
  (∀ k : Nat, has D (.int .i64 k) = S k) ∧ (∀ k : Nat, S k = true → k < n ∧ ∀ z, D.atKey (.int .i64 k) z = .lit (.bool true))
theorem MapB.lt {w : World} {b n : Nat} {S : Nat → Bool} (h : MapB w b n S) : b < w.heap.size := by obtain ⟨D, h, _⟩ := h; exact h.lt
theorem MapB.keep {w w' : World} {b n : Nat} {S : Nat → Bool} (h : MapB w b n S) (e : w'.heap[b]? = w.heap[b]?) : MapB w' b n S := by
  obtain ⟨D, ⟨es, cl, h1, h2⟩, h3⟩ := h
  exact ⟨D, ⟨es, cl, e.trans h1, h2⟩, h3⟩
theorem MapB.new (w : World) (n : Nat) (hn : n ≤ 1000) : MapB (w.alloc (.map #[] 0)) w.heap.size n (fun _ => false) := by
  have : ∀ n, cntB n (fun _ => false) = 0 := fun n => by
    induction n with
    | zero => rfl
    | succ n ih => simp [cntB, ih]
  exact ⟨.map [], World.ownsMap_made w _ _ _, by rw [this]; rfl, hn, fun k => rfl, fun k h => by cases h⟩
theorem own_size {w : World} {P : Program} {k : TypeId} {R : Value → Option (DataW Unit × List MemPlace)} {b N : Nat} {D : DataW Unit} (h : w.ownsMap P k R b N D) : w.ownsMap P k R b (Maps.size D) D := by
  obtain ⟨es, cl, h1, h2, h3, h4⟩ := h
  refine ⟨es, cl, h1, h2, ?_, h4⟩
  rw [h4]
  simp [Maps.size, length_sorted]
theorem plainElem_bool_inv {P : Program} {e : TypeId} (he : P.underlying e = some .bool) {v : Value} {z : DataW Unit × List MemPlace} (h : plainElem P e v = some z) : ∃ x, v = .bool x ∧ z = (.lit (.bool x), []) := by
  unfold plainElem at h
  rw [he] at h
  cases v <;> simp at h
  exact ⟨_, rfl, h.symm⟩
theorem MapB.at {w : World} {b n : Nat} {S : Nat → Bool} (h : MapB w b n S) (k : Nat) (hk : k ≤ 100000) : (Instr.lookup 46 (.map (some b)) (.int .i64 k) false).run Try.prog w = .ok (.bool (S k)) w := by
  obtain ⟨D, h1, _, _, h2, h3⟩ := h
  have hz : (zeroValue 4).run Try.prog w = .ok (.bool false) w := by kernel_rfl
  obtain ⟨v, ps, hr, hv⟩ := h1.lookup (t := 46) int_key8 Try.underlying46 hz (plainElem_bool Try.underlying4 false) (keyOf_int_mk Try.underlying3 (wf_small (x := k) (by omega) (by omega)))
  obtain ⟨x, rfl, hx⟩ := plainElem_bool_inv Try.underlying4 hv
  rw [hr]
  have hc := congrArg Prod.fst hx
  simp only at hc
  cases e : S k with
  | false =>
    have hn := h2 k
    rw [e] at hn
    rw [atKey_of_not_has hn] at hc
    cases hc
    rfl
  | true =>
    rw [(h3 k e).2] at hc
    cases hc
    rfl
theorem MapB.len {w : World} {b n : Nat} {S : Nat → Bool} (h : MapB w b n S) (ty : TypeId) : (Builtin.len_ #[46] ty #[.map (some b)]).run Try.prog w = .ok (.int .i64 (cntB n S : Nat)) w := by
  obtain ⟨D, h1, h2, _⟩ := h
  rw [← h2]
  exact h1.len Try.underlying46 ty
theorem MapB.put {w : World} {b n : Nat} {S : Nat → Bool} (h : MapB w b n S) (k : Nat) (hk : k < n) :
    ∃ w', (Instr.mapUpdate 46 (.map (some b)) (.int .i64 k) (.bool true)).run Try.prog w = .ok () w' ∧ MapB w' b n (bput S k) ∧ w.grownBy w' (some b) ∧ w'.heap.size = w.heap.size := by
  obtain ⟨D, h1, hsz, hn, h2, h3⟩ := h
  have hkey := keyOf_int_mk (P := Try.prog) Try.underlying3 (wf_small (x := k) (by omega) (by omega))
  have hkl : WideAt.IsKeyLit (.int .i64 (k : Int)) := by trivial
  have hcm := cnt_max S n
  obtain ⟨w', hr, h4, h5⟩ := h1.store (t := 46) int_key8 Try.underlying46 (by unfold maxLen; omega) hkey (plainElem_bool Try.underlying4 true)
  refine ⟨w', hr, ⟨_, own_size h4, ?_, hn, fun x => ?_, fun x hx => ?_⟩, h5.grown, ?_⟩
  · rw [size_put (h1.tidy int_key8), h2 k, cnt_put n hk]
    cases e : S k <;> simp [hsz]
  · by_cases e : x = k
    · subst e
      rw [has_put_same h1.isMap hkl]
      simp [bput]
    · rw [has_put_other (by intro e2; injection e2 with _ e3; omega), h2 x]
      simp [bput, e]
  · by_cases e : x = k
    · subst e
      exact ⟨hk, fun z => atKey_put_same h1.isMap hkl _ z⟩
    · have hs : S x = true := by simpa [bput, e] using hx
      obtain ⟨e0, e1⟩ := h3 x hs
      have ne : Lit.int .i64 (x : Int) ≠ .int .i64 (k : Int) := by intro e2; injection e2 with _ e3; omega
      exact ⟨e0, fun z => by rw [atKey_put_other ne]; exact e1 z⟩
  · obtain ⟨es, cl, es', cl', _, rfl⟩ := h5
    simp [ChangeMaps.setBlock]
theorem MapB.congr {w : World} {b n : Nat} {S S' : Nat → Bool} (h : MapB w b n S) (hs : ∀ x, S x = S' x) : MapB w b n S' := by
  have : S = S' := funext hs
  rw [← this]; exact h
theorem MapB.ne {w : World} {b n : Nat} {S : Nat → Bool} (h : MapB w b n S) {a : Addr} {v : Value} (ha : w.cell? a = some v) : a.block ≠ b := by
  intro e
  obtain ⟨D, ⟨es, cl, h1, _⟩, _⟩ := h
  rw [← e] at h1
  simp [World.cell?, h1] at ha
theorem MapB.cells {w w' : World} {b n : Nat} {S : Nat → Bool} (h : MapB w b n S) (hg : w.grownBy w' (some b)) (a : Addr) (v : Value) (ha : w.cell? a = some v) : w'.cell? a = some v := by
  have ne := h.ne ha
  exact (World.cell?_of_block (hg.block _ (World.block_lt_of_cell? w a ha) (by simp; exact ne))).trans ha
/-- A copy at any world. -/
theorem clone_at {s : Scr} {a0 a1 : Option Addr} {c0 c1 : Nat} {w : World} (hs : ScIs w.cell? s (.slice a0 s.consts.length c0) (.slice a1 s.funcs.length c1)) (hsf : s.fits) (W : World) (hW : Below w.heap.size w W) : Calls Try.prog 8 #[.agg #[.slice a0 s.consts.length c0, .slice a1 s.funcs.length c1]] W fun e W2 => ∃ b0 d0 b1 d1, e = .returned (.agg #[.slice b0 s.consts.length d0, .slice b1 s.funcs.length d1]) ∧ Hid (ScIs W2.cell? s (.slice b0 s.consts.length d0) (.slice b1 s.funcs.length d1) ∧ Below W.heap.size W W2) := by
  refine (rclone_any s _ _ W (hs.keep (below_keep hW)) hsf).mono fun e W2 ⟨u0, u1, h1, h2, h3⟩ => ?_
  obtain ⟨⟨b0, d0, rfl, n0⟩, ⟨b1, d1, rfl, n1⟩⟩ := h2
  exact ⟨b0, d0, b1, d1, h1, hid7 ⟨⟨⟨b0, d0, rfl, n0⟩, ⟨b1, d1, rfl, n1⟩⟩, h3⟩⟩
end Go.Proofs.Ytikomfbpaimnmaa
