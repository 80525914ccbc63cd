/- Layer 11: the document's Bytes of a store. Layer 11: a store with its transaction, and the document's, apart. -/
import Derived.Test.YtcjakgogdbfagaaKT
import Derived.Test.YtcjakgogdbfagaaKL
import Derived.Test.YtcjakgogdbfagaaRW
import Derived.Deep.RegionHeld3
import Derived.Test.YtcjakgogdbfagaaKZn
import Derived.Test.YtcjakgogdbfagaaKU
import Derived.Test.YtcjakgogdbfagaaKF
namespace Go.Proofs.Ytcjakgogdbfagaa
open Go.RowKit
theorem ints_one (n : Int) : ints [n] = be64 n := by simp [ints]
set_option maxRecDepth 100000 in
set_option maxHeartbeats 1000000 in
theorem rbytes_any (rb : Nat) (v : Value) (L : Kvs) (w : World) (h : RfAt rb v L w) (hL : L.length ≤ 512) (hsm : ∀ x ∈ L, x.1.length ≤ 32 ∧ x.2.length ≤ 256) :
    Calls Try.prog 23 #[.pointer (some ⟨rb, 0, none⟩)] w fun e w' => ∃ v', e = .returned v' ∧ OwnB w' w.heap.size v' (stB L) ∧ Below w.heap.size w w' := by
  obtain ⟨ca, cc, rfl, hcc, hcm⟩ := h.form
  have c0 := h.c
  have hN := refNumber_any (L.length : Int) w
  obtain ⟨n, hn⟩ : ∃ n, n = L.length := ⟨_, rfl⟩
  rw [← hn] at hN c0 hL
  have HN := hid hn
  go_enter Try.func23, Try.ntmps23
  have HH := hidb h
  have HM := hidb hsm
  clear h hcc hsm hn
  go_wp2_with (go_at_call 51; refine hN.mono ?_; clear hN; rintro e w1 ⟨v1, rfl, o1, b1⟩)
  go_loopw [3, 4] (fun v i wr => ∃ (k : Nat) (v' : Value), k ≤ n ∧ i = .int .i64 k ∧ v = v' ∧ Run w.heap.size w wr v' (be64 n ++ (L.take k).flatMap pairB)) (fun _ i _ => n - (intOf i).toNat)
  case atStart => exact ⟨0, _, Nat.zero_le _, rfl, rfl, ⟨by simpa using o1, b1, b1.size⟩⟩
  case round =>
    obtain ⟨k, v', hk, rfl, rfl, R⟩ := hrel
    clear o1 b1 c0
    by_cases hlt : k < n
    · have kl : k < L.length := by have := HN.out; omega
      obtain ⟨g, eg, hg, _, _⟩ := row_pairR HH.out.row kl
      subst eg
      have HS : Hid (be64 n ++ (L.take (k + 1)).flatMap pairB = be64 n ++ (L.take k).flatMap pairB ++ text L[k].1 ++ text L[k].2) := hid (by
        rw [List.take_succ_eq_append_getElem kl, List.flatMap_append]
        simp [pairB, texts, List.append_assoc])
      have hlen : (be64 n ++ (L.take k).flatMap pairB).length ≤ 200000 := by
        have := flatB_le (L := L.take k) fun x hx => HM.out x (List.mem_of_mem_take hx)
        have h2 : (be64 n).length = 8 := by simp [be64, be_length]
        rw [List.length_append, h2]
        rw [List.length_take] at this
        omega
      have hx := HM.out L[k] (by simp)
      have hSk : Hid (∀ W, Below w.heap.size w W → W.cell? ⟨rb, 0, none⟩ = some (.slice (some ⟨g, 0, none⟩) n cc) ∧ W.cell? ⟨g, k * 2, none⟩ = some (.string ⟨L[k].1.toArray⟩) ∧ W.cell? ⟨g, k * 2 + 1, none⟩ = some (.string ⟨L[k].2.toArray⟩)) := hidb fun W hW => by
        have h' := HH.out.below hW
        obtain ⟨g', e', _, x0, x1⟩ := row_pairR h'.row kl
        cases e'
        exact ⟨by rw [HN.out]; exact h'.c, x0, x1⟩
      have hT1 := rtextOne L[k].1
      have hT2 := rtextOne L[k].2
      generalize L[k].1 = xk at *
      generalize L[k].2 = xv at *
      have l1 : (text xk).length ≤ 300 := by rw [text_length]; omega
      have l2 : (text xv).length ≤ 300 := by rw [text_length]; omega
      replace hT1 := hidb fun W => hT1 W (by omega)
      replace hT2 := hidb fun W => hT2 W (by omega)
      generalize text xk = tk at *
      generalize text xv = tv at *
      generalize be64 n ++ (L.take k).flatMap pairB = ys at R HS hlen
      clear HH HM HN kl
      obtain ⟨c0, c1, c2⟩ := hSk.out _ R.below
      have hdr : Below wr.heap.size wr wr.drew := (Below.refl _ _).drew
      replace R := R.call hdr
      go_upto_region 5 with fail
      go_region_held3 (fun W => W.cell? ⟨rb, 0, none⟩ = some (.slice (some ⟨g, 0, none⟩) n cc) ∧ W.cell? ⟨g, k * 2, none⟩ = some (.string ⟨xk.toArray⟩) ∧ W.cell? ⟨g, k * 2 + 1, none⟩ = some (.string ⟨xv.toArray⟩)) (first | exact hSk.out _ R.below | go_keep) (first
        | (go_at_call 52; first
          | (refine (hT1.out _).mono ?_; clear hT1; rintro e wn ⟨r, rfl, hO, hb⟩; obtain ⟨g0, j0, rfl, S0⟩ := Side.new R hO; replace R := R.call hb; (first | (replace S1 := S1.call hb) | skip))
          | (refine (hT2.out _).mono ?_; clear hT2; rintro e wn ⟨r, rfl, hO, hb⟩; obtain ⟨g1, j1, rfl, S1⟩ := Side.new R hO; replace R := R.call hb; (first | (replace S0 := S0.call hb) | skip)))
        | (refine step_app _ rfl _ _ _ _ rfl elem_u8 w.heap.size _ _ rfl R.row _ rfl (tk.map bv) (S0.src _) (by simp only [List.length_map]; unfold maxLen; omega) (by simp only [List.length_map]; omega) R.size ?_; intro vn wn ho hs; replace R := R.app ho hs; clear S0; (first | (replace S1 := S1.app hs) | skip))
        | (refine step_app _ rfl _ _ _ _ rfl elem_u8 w.heap.size _ _ rfl R.row _ rfl (tv.map bv) (S1.src _) (by simp only [List.length_map, List.length_append]; unfold maxLen; omega) (by simp only [List.length_map, List.length_append]; omega) R.size ?_; intro vn wn ho hs; replace R := R.app ho hs; clear S1))
      all_goals
        go_wp2_with fail
        exact ⟨⟨k + 1, _, by omega, by go_num, rfl, by rw [HS.out]; exact R⟩, by simp [intOf]; omega⟩
    · have htk : L.take k = L := List.take_of_length_le (by have := HN.out; omega)
      rw [htk] at R
      have HE : Hid (stB L = be64 n ++ L.flatMap pairB) := hid (by rw [stB, ints_one, ← HN.out])
      have c0 : wr.cell? ⟨rb, 0, none⟩ = some (.slice ca n cc) := by rw [HN.out]; exact (HH.out.below R.below).c
      have HR := hidb R
      clear HH HM R htk
      go_wp2
      go_ret
      exact ⟨_, rfl, by rw [HE.out]; exact HR.out.row, HR.out.below⟩
end Go.Proofs.Ytcjakgogdbfagaa
namespace Go.Proofs.Ytcjakgogdbfagaa
open Go.RowKit
/-- The document's store and transaction, from B on. -/
structure TD (B q r mb : Nat) (v v2 : Value) (M N : Kvs) (w : World) : Prop where
  tx : RTx q r mb w
  r1 : RfAt r v M w
  r2 : RfAt mb v2 N w
  lo : B ≤ q ∧ B ≤ r ∧ B ≤ mb
  l1 : ∀ i, v.ownBlock = some i → B ≤ i
  l2 : ∀ i, v2.ownBlock = some i → B ≤ i
  ne : r ≠ mb
  ap : ∀ i, v.ownBlock = some i → v2.ownBlock ≠ some i
/-- Both sides, and the box of a call. -/
def TJ (Z : Nat) (c : Array Value) (s x q r mb : Nat) (M N Md Nd : Kvs) (d : Nat) (w0 w : World) : Prop := AX s x M N d w0 w ∧ (∃ v v2, TD w0.heap.size q r mb v v2 Md Nd w) ∧ w.heap[Z]? = some (.cells c 33 (0, 0))
section
variable {Z : Nat} {c : Array Value} {s x q r mb : Nat} {M N Md Nd : Kvs} {d : Nat} {w0 w w' : World}
theorem TJ.below (j : TJ Z c s x q r mb M N Md Nd d w0 w) (k : Below w.heap.size w w') : TJ Z c s x q r mb M N Md Nd d w0 w' := by
  obtain ⟨h1, ⟨v, v2, t⟩, h3⟩ := j
  exact ⟨h1.below k, ⟨v, v2, t.tx.below k, t.r1.below k, t.r2.below k, t.lo, t.l1, t.l2, t.ne, t.ap⟩, (k.block _ (heap_ltb h3)).trans h3⟩
theorem TJ.bel (j : TJ Z c s x q r mb M N Md Nd d w0 w) : Below w0.heap.size w0 w := j.1.bel
theorem TJ.cells {v0 v1 v2 v3 : Value} (j : TJ Z #[v0, v1, v2, v3] s x q r mb M N Md Nd d w0 w) : (w.cell? ⟨Z, 0, none⟩ = some v0 ∧ w.cell? ⟨Z, 1, none⟩ = some v1 ∧ w.cell? ⟨Z, 2, none⟩ = some v2 ∧ w.cell? ⟨Z, 3, none⟩ = some v3) ∧ w.cell? ⟨q, 1, none⟩ = some (.pointer (some ⟨mb, 0, none⟩)) := by
  obtain ⟨h1, ⟨v, v2, t⟩, h3⟩ := j
  exact ⟨⟨Lib.cell_of_heap h3 0, Lib.cell_of_heap h3 1, Lib.cell_of_heap h3 2, Lib.cell_of_heap h3 3⟩, t.tx.cells.2⟩
/-- A block of a transaction is none of another type. -/
theorem not_tx {b : TxB} (h : SX s b M N d w) {i : Nat} {cs : Array Value} {t : TypeId} (hi : w.heap[i]? = some (.cells cs t (0, 0))) (h1 : t ≠ 65) (h2 : t ≠ 59) (h3 : t ≠ 90) (h4 : t ≠ 96) : i ∉ b.l := fun hb => by
  obtain ⟨cs', t', e, ht⟩ := sx_typed h i hb
  rw [hi] at e
  injection e with e
  injection e with _ e
  subst e
  rcases ht with e | e | e | e
  · exact h1 e
  · exact h2 e
  · exact h3 e
  · exact h4 e
theorem row_not_tx {b : TxB} (h : SX s b M N d w) {v : Value} {L : Kvs} {B n : Nat} (hr : w.ownsRow B 73 2 v n (cellsP L)) : ∀ g, v.ownBlock = some g → g ∉ b.l := fun g e hb => by
  obtain ⟨cs', t', e', ht⟩ := sx_typed h g hb
  have := row_typed hr e e'
  rcases ht with e | e | e | e <;> (rw [e] at this; exact absurd this (by decide))
/-- A call of the transaction. -/
theorem TJ.ofX {b : TxB} {M' N' : Kvs} {d' : Nat} {v0 : Value} {e : Ending} (h2 : SX s b M N d w) (h3 : ∀ i ∈ b.l, w0.heap.size ≤ i) (h4 : w0.heap.size ≤ s) (h5 : Below w0.heap.size w0 w) (e1 : b.xb = x) (t : ∃ v v2, TD w0.heap.size q r mb v v2 Md Nd w) (hz : w.heap[Z]? = some (.cells c 33 (0, 0))) (hx : SXEnd s b M' N' d' v0 w e w') : e = .returned v0 ∧ Hid (TJ Z c s x q r mb M' N' Md Nd d' w0 w') := by
  have hx2 := hx
  obtain ⟨_, H⟩ := hx2
  obtain ⟨_, _, _, _, _, q5⟩ := H.out
  obtain ⟨r1, K⟩ := AX.of h2 h3 h4 h5 e1 hx
  obtain ⟨v, v2, t⟩ := t
  refine ⟨r1, hidb ⟨K.out.1, ⟨v, v2, t.tx.kt q5 (not_tx h2 t.tx (by decide) (by decide) (by decide) (by decide)), t.r1.kt q5 (not_tx h2 t.r1.box (by decide) (by decide) (by decide) (by decide)) (row_not_tx h2 t.r1.row), t.r2.kt q5 (not_tx h2 t.r2.box (by decide) (by decide) (by decide) (by decide)) (row_not_tx h2 t.r2.row), t.lo, t.l1, t.l2, t.ne, t.ap⟩, ?_⟩⟩
  exact (q5.block _ (heap_ltb hz) (not_tx h2 hz (by decide) (by decide) (by decide) (by decide))).trans hz
/-- What is kept where blocks of the document turn. -/
theorem AX.kt {S : Nat → Prop} (h : AX s x M N d w0 w) (k : Kt S w w') (hS : ∀ i, S i → w0.heap.size ≤ i) (ht : ∀ i, S i → ∃ cs t, w.heap[i]? = some (.cells cs t (0, 0)) ∧ (t = 56 ∨ t = 73)) : AX s x M N d w0 w' := by
  obtain ⟨b, e1, h2, h3, h4, h5⟩ := h
  refine ⟨b, e1, h2.keepAll fun i hi => k.block i (h2.lts i hi) fun hs => ?_, h3, h4, h5.trans (k.toBelow h5.size hS)⟩
  obtain ⟨cs, t, e, ht⟩ := ht i hs
  rcases hi with rfl | hi
  · have := h2.box
    rw [e] at this
    injection this with this
    injection this with _ this
    rcases ht with e | e <;> (rw [e] at this; exact absurd this (by decide))
  · rcases ht with e2 | e2
    · exact not_tx h2 e (by rw [e2]; decide) (by rw [e2]; decide) (by rw [e2]; decide) (by rw [e2]; decide) hi
    · exact not_tx h2 e (by rw [e2]; decide) (by rw [e2]; decide) (by rw [e2]; decide) (by rw [e2]; decide) hi
theorem row_block {v : Value} {L : Kvs} {B n : Nat} (hr : w.ownsRow B 73 2 v n (cellsP L)) {g : Nat} (e : v.ownBlock = some g) : ∃ cs, w.heap[g]? = some (.cells cs 73 (0, 0)) := by
  rcases hr.2 with ⟨rfl, _⟩ | ⟨g', cap, cur, rfl, hb, hc, _⟩
  · cases e
  · cases e
    exact ⟨_, hc⟩
/-- A call of the document's copy. -/
theorem TJ.ofM {Nd' : Kvs} (h1 : AX s x M N d w0 w) {v v2 : Value} (t : TD w0.heap.size q r mb v v2 Md Nd w) (hz : w.heap[Z]? = some (.cells c 33 (0, 0))) (k : ∃ v', RfAt mb v' Nd' w' ∧ (v'.ownBlock = v2.ownBlock ∨ ∀ q, v'.ownBlock = some q → w.heap.size ≤ q) ∧ Kt (fun i => i = mb ∨ v2.ownBlock = some i) w w') : TJ Z c s x q r mb M N Md Nd' d w0 w' := by
  obtain ⟨v', k1, k2, k3⟩ := k
  have hs := h1.bel.size
  have rows : ∀ i, v2.ownBlock = some i → ∀ {cs : Array Value} {b : Nat} {ty : TypeId}, w.heap[b]? = some (.cells cs ty (0, 0)) → ty ≠ 73 → b ≠ i := fun i e cs b ty hb hty e2 => by
    subst e2
    exact hty (row_typed t.r2.row e hb)
  refine ⟨h1.kt k3 (by rintro i (e | e); rw [e]; exact t.lo.2.2; exact t.l2 i e) ?_, ⟨v, v', ?_, ?_, k1, t.lo, t.l1, ?_, t.ne, ?_⟩, ?_⟩
  · rintro i (e | e)
    · rw [e]; exact ⟨_, _, t.r2.box, .inl rfl⟩
    · obtain ⟨cs, hc⟩ := row_block t.r2.row e; exact ⟨_, _, hc, .inr rfl⟩
  · refine t.tx.kt k3 ?_
    rintro (e | e)
    · exact typ_ne t.tx t.r2.box (by decide) e
    · exact rows _ e t.tx (by decide) rfl
  · refine t.r1.kt k3 ?_ ?_
    · rintro (e | e)
      · exact t.ne e
      · exact rows _ e t.r1.box (by decide) rfl
    · rintro g hg (e | e)
      · rw [e] at hg; exact absurd (row_typed t.r1.row hg t.r2.box) (by decide)
      · exact t.ap g hg e
  · intro i hi
    rcases k2 with a | a
    · exact t.l2 i (a ▸ hi)
    · have := a i hi
      omega
  · intro i hi
    rcases k2 with a | a
    · rw [a]; exact t.ap i hi
    · intro e
      have := a i e
      obtain ⟨cs, hc⟩ := row_block t.r1.row hi
      have := heap_ltb hc
      omega
  · refine (k3.block _ (heap_ltb hz) ?_).trans hz
    rintro (e | e)
    · exact typ_ne hz t.r2.box (by decide) e
    · exact rows _ e hz (by decide) rfl
/-- The document's Commit. -/
theorem TJ.ofC {Md' : Kvs} (h1 : AX s x M N d w0 w) {v v2 : Value} (t : TD w0.heap.size q r mb v v2 Md Nd w) (hz : w.heap[Z]? = some (.cells c 33 (0, 0))) (k : RFin w r Md' w') : TJ Z c s x q r mb M N Md' Nd d w0 w' := by
  obtain ⟨v', k1, k2, k3⟩ := k
  have hs := h1.bel.size
  refine ⟨h1.kt k3 (by rintro i rfl; exact t.lo.2.1) ?_, ⟨v', v2, ?_, k1, ?_, t.lo, ?_, t.l2, t.ne, ?_⟩, ?_⟩
  · rintro i rfl; exact ⟨_, _, t.r1.box, .inl rfl⟩
  · exact t.tx.kt k3 fun e => typ_ne t.tx t.r1.box (by decide) e
  · exact t.r2.kt k3 (fun e => t.ne e.symm) fun g hg e => by subst e; exact absurd (row_typed t.r2.row hg t.r1.box) (by decide)
  · intro i hi
    have := k2 i hi
    omega
  · intro i hi e
    have := k2 i hi
    obtain ⟨cs, hc⟩ := row_block t.r2.row e
    have := heap_ltb hc
    omega
  · exact (k3.block _ (heap_ltb hz) fun e => typ_ne hz t.r1.box (by decide) e).trans hz
end
end Go.Proofs.Ytcjakgogdbfagaa
