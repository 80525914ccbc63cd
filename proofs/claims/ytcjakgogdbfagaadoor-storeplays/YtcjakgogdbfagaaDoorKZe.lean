/- Layer 11: the document's Bytes of a store. Layer 11: the document's Hash of a store. Layer 11: two stores and the document's two, apart. Layer 11: the law's step: a call on a store and on the document's. -/
import Derived.Test.YtcjakgogdbfagaaDoorKT
import Derived.Test.YtcjakgogdbfagaaDoorKL
import Derived.Test.YtcjakgogdbfagaaDoorRW
import Derived.Deep.RegionHeld3
import Derived.Test.YtcjakgogdbfagaaDoorKZg
import Derived.Test.YtcjakgogdbfagaaDoorKZb
import Derived.Test.YtcjakgogdbfagaaDoorKV
import Derived.Test.YtcjakgogdbfagaaDoorKU
import Derived.Test.YtcjakgogdbfagaaDoorKF
namespace Go.Proofs.YtcjakgogdbfagaaDoor
open Go.RowKit
theorem ints_one (n : Int) : ints [n] = be64 n := by simp [ints]
set_option maxRecDepth 100000 in
set_option maxHeartbeats 1000000 in
theorem rbytes_any (rb : Nat) (v : Value) (L : Kvs) (w : World) (h : RfAt rb v L w) (hL : L.length ≤ 512) (hsm : ∀ x ∈ L, x.1.length ≤ 32 ∧ x.2.length ≤ 256) :
    Calls Tryd.prog 25 #[.pointer (some ⟨rb, 0, none⟩)] w fun e w' => ∃ v', e = .returned v' ∧ OwnB w' w.heap.size v' (stB L) ∧ Below w.heap.size w w' := by
  obtain ⟨ca, cc, rfl, hcc, hcm⟩ := h.form
  have c0 := h.c
  have hN := refNumber_any (L.length : Int) w
  obtain ⟨n, hn⟩ : ∃ n, n = L.length := ⟨_, rfl⟩
  rw [← hn] at hN c0 hL
  have HN := hid hn
  go_enter Tryd.func25, Tryd.ntmps25
  have HH := hidb h
  have HM := hidb hsm
  clear h hcc hsm hn
  go_wp2_with (go_at_call 47; refine hN.mono ?_; clear hN; rintro e w1 ⟨v1, rfl, o1, b1⟩)
  go_loopw [3, 4] (fun v i wr => ∃ (k : Nat) (v' : Value), k ≤ n ∧ i = .int .i64 k ∧ v = v' ∧ Run w.heap.size w wr v' (be64 n ++ (L.take k).flatMap pairB)) (fun _ i _ => n - (intOf i).toNat)
  case atStart => exact ⟨0, _, Nat.zero_le _, rfl, rfl, ⟨by simpa using o1, b1, b1.size⟩⟩
  case round =>
    obtain ⟨k, v', hk, rfl, rfl, R⟩ := hrel
    clear o1 b1 c0
    by_cases hlt : k < n
    · have kl : k < L.length := by have := HN.out; omega
      obtain ⟨g, eg, hg, _, _⟩ := row_pairR HH.out.row kl
      subst eg
      have HS : Hid (be64 n ++ (L.take (k + 1)).flatMap pairB = be64 n ++ (L.take k).flatMap pairB ++ text L[k].1 ++ text L[k].2) := hid (by
        rw [List.take_succ_eq_append_getElem kl, List.flatMap_append]
        simp [pairB, texts, List.append_assoc])
      have hlen : (be64 n ++ (L.take k).flatMap pairB).length ≤ 200000 := by
        have := flatB_le (L := L.take k) fun x hx => HM.out x (List.mem_of_mem_take hx)
        have h2 : (be64 n).length = 8 := by simp [be64, be_length]
        rw [List.length_append, h2]
        rw [List.length_take] at this
        omega
      have hx := HM.out L[k] (by simp)
      have hSk : Hid (∀ W, Below w.heap.size w W → W.cell? ⟨rb, 0, none⟩ = some (.slice (some ⟨g, 0, none⟩) n cc) ∧ W.cell? ⟨g, k * 2, none⟩ = some (.string ⟨L[k].1.toArray⟩) ∧ W.cell? ⟨g, k * 2 + 1, none⟩ = some (.string ⟨L[k].2.toArray⟩)) := hidb fun W hW => by
        have h' := HH.out.below hW
        obtain ⟨g', e', _, x0, x1⟩ := row_pairR h'.row kl
        cases e'
        exact ⟨by rw [HN.out]; exact h'.c, x0, x1⟩
      have hT1 := rtextOne L[k].1
      have hT2 := rtextOne L[k].2
      generalize L[k].1 = xk at *
      generalize L[k].2 = xv at *
      have l1 : (text xk).length ≤ 300 := by rw [text_length]; omega
      have l2 : (text xv).length ≤ 300 := by rw [text_length]; omega
      replace hT1 := hidb fun W => hT1 W (by omega)
      replace hT2 := hidb fun W => hT2 W (by omega)
      generalize text xk = tk at *
      generalize text xv = tv at *
      generalize be64 n ++ (L.take k).flatMap pairB = ys at R HS hlen
      clear HH HM HN kl
      obtain ⟨c0, c1, c2⟩ := hSk.out _ R.below
      have hdr : Below wr.heap.size wr wr.drew := (Below.refl _ _).drew
      replace R := R.call hdr
      go_upto_region 5 with fail
      go_region_held3 (fun W => W.cell? ⟨rb, 0, none⟩ = some (.slice (some ⟨g, 0, none⟩) n cc) ∧ W.cell? ⟨g, k * 2, none⟩ = some (.string ⟨xk.toArray⟩) ∧ W.cell? ⟨g, k * 2 + 1, none⟩ = some (.string ⟨xv.toArray⟩)) (first | exact hSk.out _ R.below | go_keep) (first
        | (go_at_call 48; first
          | (refine (hT1.out _).mono ?_; clear hT1; rintro e wn ⟨r, rfl, hO, hb⟩; obtain ⟨g0, j0, rfl, S0⟩ := Side.new R hO; replace R := R.call hb; (first | (replace S1 := S1.call hb) | skip))
          | (refine (hT2.out _).mono ?_; clear hT2; rintro e wn ⟨r, rfl, hO, hb⟩; obtain ⟨g1, j1, rfl, S1⟩ := Side.new R hO; replace R := R.call hb; (first | (replace S0 := S0.call hb) | skip)))
        | (refine step_app _ rfl _ _ _ _ rfl elem_u8 w.heap.size _ _ rfl R.row _ rfl (tk.map bv) (S0.src _) (by simp only [List.length_map]; unfold maxLen; omega) (by simp only [List.length_map]; omega) R.size ?_; intro vn wn ho hs; replace R := R.app ho hs; clear S0; (first | (replace S1 := S1.app hs) | skip))
        | (refine step_app _ rfl _ _ _ _ rfl elem_u8 w.heap.size _ _ rfl R.row _ rfl (tv.map bv) (S1.src _) (by simp only [List.length_map, List.length_append]; unfold maxLen; omega) (by simp only [List.length_map, List.length_append]; omega) R.size ?_; intro vn wn ho hs; replace R := R.app ho hs; clear S1))
      all_goals
        go_wp2_with fail
        exact ⟨⟨k + 1, _, by omega, by go_num, rfl, by rw [HS.out]; exact R⟩, by simp [intOf]; omega⟩
    · have htk : L.take k = L := List.take_of_length_le (by have := HN.out; omega)
      rw [htk] at R
      have HE : Hid (stB L = be64 n ++ L.flatMap pairB) := hid (by rw [stB, ints_one, ← HN.out])
      have c0 : wr.cell? ⟨rb, 0, none⟩ = some (.slice ca n cc) := by rw [HN.out]; exact (HH.out.below R.below).c
      have HR := hidb R
      clear HH HM R htk
      go_wp2
      go_ret
      exact ⟨_, rfl, by rw [HE.out]; exact HR.out.row, HR.out.below⟩
end Go.Proofs.YtcjakgogdbfagaaDoor
namespace Go.Proofs.YtcjakgogdbfagaaDoor
open Go.RowKit
set_option maxRecDepth 100000 in
theorem rhash_any (rb : Nat) (v : Value) (L : Kvs) (w : World) (h : RfAt rb v L w) (hL : L.length ≤ 512) (hsm : ∀ x ∈ L, x.1.length ≤ 32 ∧ x.2.length ≤ 256) :
    Calls Tryd.prog 27 #[.pointer (some ⟨rb, 0, none⟩)] w fun e w' => e = .returned (.int .i64 (crc (stB L) : Nat)) ∧ Below w.heap.size w w' := by
  have hln : (stB L).length ≤ 140737488355328 := by
    have := flatB_le hsm
    rw [stB, List.length_append, ints_length, List.length_singleton]
    omega
  have HB : Hid (Calls Tryd.prog 25 #[.pointer (some ⟨rb, 0, none⟩)] w fun e w1 => ∃ ao n c, e = .returned (.slice ao n c) ∧ Hid (Calls Tryd.prog 50 #[.slice ao n c] w1 fun e w2 => e = .returned (.int .u32 (crc (stB L) : Nat)) ∧ Hid (Below w.heap.size w w2))) := hidb (by
    refine (rbytes_any rb v L w h hL hsm).mono ?_
    rintro e w1 ⟨v', rfl, ho, hb⟩
    obtain ⟨ao, cap, rfl, _, _, hB, _⟩ := Own.bs ho
    exact ⟨ao, _, cap, rfl, hidb ((refSum_any ao _ cap (stB L) w1 rfl hln hB).mono fun e w2 h => ⟨h.1, hidb (by rw [h.2]; exact hb)⟩)⟩)
  have hc := crc_lt (stB L)
  generalize crc (stB L) = x at *
  clear hsm hL h hln
  go_enter Tryd.func27, Tryd.ntmps27
  go_wp2_with (first
    | (go_at_call 25; refine HB.out.mono ?_; clear HB; rintro e w1 ⟨ao, n, c, rfl, HS⟩)
    | (go_at_call 50; refine HS.out.mono ?_; clear HS; rintro e w2 ⟨rfl, K2⟩)
    | fail)
  go_ret
  exact ⟨rfl, K2.out⟩
end Go.Proofs.YtcjakgogdbfagaaDoor
namespace Go.Proofs.YtcjakgogdbfagaaDoor
open Go.RowKit
theorem rdel_any (rb : Nat) (v0 : Value) (L : Kvs) (w : World) (k : Bt) (h : RfAt rb v0 L w) (s : SrtL L) (hL : L.length ≤ 512) :
    Calls Tryd.prog 18 #[.pointer (some ⟨rb, 0, none⟩), sv k] w (RfEnd rb v0 (delL L k) (.bool (getL L k).isSome) w) := by
  cases hg : getL L k with
  | none =>
    have e : delL L k = L := delL_none hg
    rw [e]
    refine (rdel_no rb v0 L w k h s (by omega) hg).mono ?_
    rintro e w' ⟨rfl, hm⟩
    exact h.same hm _
  | some u =>
    refine (rdel_yes rb v0 L w k u h s hL hg).mono ?_
    rintro e w' ⟨rfl, H⟩
    obtain ⟨v', q1, q2, q3⟩ := H.out
    exact ⟨rfl, hidb ⟨v', q1, .inr q2, q3.mono fun i _ e => .inl e⟩⟩
/-- A store and the document's, both from B on. -/
structure Twin (B s r tb g : Nat) (v : Value) (M1 M2 : Kvs) (w : World) : Prop where
  st : StAt s tb g M1 w
  rf : RfAt r v M2 w
  lo : B ≤ s ∧ B ≤ tb ∧ B ≤ g ∧ B ≤ r
  lv : ∀ i, v.ownBlock = some i → B ≤ i
/-- Two of them, apart. -/
def PJ (s r t q : Nat) (M1 M2 N1 N2 : Kvs) (w0 w : World) : Prop := ∃ tb g v tc h u, Twin w0.heap.size s r tb g v M1 M2 w ∧ Twin w0.heap.size t q tc h u N1 N2 w ∧ Below w0.heap.size w0 w ∧ (s ≠ t ∧ tb ≠ tc ∧ g ≠ h ∧ r ≠ q) ∧ ∀ i, v.ownBlock = some i → u.ownBlock ≠ some i
section
variable {B s r t q tb g tc h : Nat} {u v : Value} {M1 M2 N1 N2 : Kvs} {w0 w w' : World}
theorem Twin.below (x : Twin B s r tb g v M1 M2 w) (k : Below w.heap.size w w') : Twin B s r tb g v M1 M2 w' := ⟨x.st.below k, x.rf.below k, x.lo, x.lv⟩
theorem Twin.lt (x : Twin B s r tb g v M1 M2 w) : (s < w.heap.size ∧ tb < w.heap.size ∧ g < w.heap.size ∧ r < w.heap.size) ∧ ∀ i, v.ownBlock = some i → i < w.heap.size := by
  have := x.st.lts
  refine ⟨⟨this.1, this.2.1, this.2.2, heap_ltb x.rf.box⟩, fun i e => ?_⟩
  rcases x.rf.row.2 with ⟨rfl, _⟩ | ⟨g', cap, cur, rfl, hb, hc, _⟩
  · cases e
  · cases e
    exact heap_ltb hc
theorem PJ.swap (j : PJ s r t q M1 M2 N1 N2 w0 w) : PJ t q s r N1 N2 M1 M2 w0 w := by
  obtain ⟨tb, g, v, tc, h, u, x, y, b, d, e⟩ := j
  exact ⟨tc, h, u, tb, g, v, y, x, b, ⟨d.1.symm, d.2.1.symm, d.2.2.1.symm, d.2.2.2.symm⟩, fun i a c => e i c a⟩
theorem PJ.below (j : PJ s r t q M1 M2 N1 N2 w0 w) (k : Below w.heap.size w w') : PJ s r t q M1 M2 N1 N2 w0 w' := by
  obtain ⟨tb, g, v, tc, h, u, x, y, b, d, e⟩ := j
  exact ⟨tb, g, v, tc, h, u, x.below k, y.below k, b.trans (k.mono b.size), d, e⟩
theorem PJ.bel (j : PJ s r t q M1 M2 N1 N2 w0 w) : Below w0.heap.size w0 w := by
  obtain ⟨tb, g, v, tc, h, u, x, y, b, d, e⟩ := j
  exact b
theorem PJ.st (j : PJ s r t q M1 M2 N1 N2 w0 w) : ∃ tb g, StAt s tb g M1 w := by
  obtain ⟨tb, g, v, tc, h, u, x, y, b, d, e⟩ := j
  exact ⟨tb, g, x.st⟩
theorem PJ.rf (j : PJ s r t q M1 M2 N1 N2 w0 w) : ∃ v, RfAt r v M2 w := by
  obtain ⟨tb, g, v, tc, h, u, x, y, b, d, e⟩ := j
  exact ⟨v, x.rf⟩
/-- The document's box is no block of a store. -/
theorem rf_st_apart {r2 : Nat} (x : StAt s tb g M1 w) (y : RfAt r2 v M2 w) : (r2 ≠ tb ∧ r2 ≠ g ∧ r2 ≠ s) ∧ ∀ i, v.ownBlock = some i → i ≠ s ∧ i ≠ tb ∧ i ≠ g := by
  obtain ⟨⟨c0, t0⟩, ⟨c1, t1⟩, ⟨c2, t2⟩⟩ := st_types x
  refine ⟨⟨typ_ne y.box t1 (by decide), typ_ne y.box t2 (by decide), typ_ne y.box t0 (by decide)⟩, fun i e => ⟨?_, ?_, ?_⟩⟩
  · rintro rfl; exact absurd (row_typed y.row e t0) (by decide)
  · rintro rfl; exact absurd (row_typed y.row e t1) (by decide)
  · rintro rfl; exact absurd (row_typed y.row e t2) (by decide)
theorem st_st_apart (x : StAt s tb g M1 w) (y : StAt t tc h N1 w) : t ≠ tb ∧ t ≠ g ∧ tc ≠ g ∧ h ≠ tb := by
  obtain ⟨⟨c0, t0⟩, ⟨c1, t1⟩, ⟨c2, t2⟩⟩ := st_types x
  obtain ⟨⟨d0, u0⟩, ⟨d1, u1⟩, ⟨d2, u2⟩⟩ := st_types y
  exact ⟨typ_ne u0 t1 (by decide), typ_ne u0 t2 (by decide), typ_ne u1 t2 (by decide), typ_ne u2 t1 (by decide)⟩
/-- A call changed the first store. -/
theorem PJ.ofS (x : Twin w0.heap.size s r tb g v M1 M2 w) (y : Twin w0.heap.size t q tc h u N1 N2 w) (b : Below w0.heap.size w0 w) (d : s ≠ t ∧ tb ≠ tc ∧ g ≠ h ∧ r ≠ q) (e : ∀ i, v.ownBlock = some i → u.ownBlock ≠ some i) {M' : Kvs} (k : ∃ g', StAt s tb g' M' w' ∧ (g' = g ∨ w.heap.size ≤ g') ∧ Kt (fun i => i = tb ∨ i = g) w w') : PJ s r t q M' M2 N1 N2 w0 w' := by
  obtain ⟨g', k1, k2, k3⟩ := k
  have a1 := rf_st_apart x.st x.rf
  have a2 := rf_st_apart x.st y.rf
  have a3 := st_st_apart x.st y.st
  have hs := b.size
  have l1 := x.lo
  have l2 := y.lt
  refine ⟨tb, g', v, tc, h, u, ⟨k1, x.rf.kt k3 (by rintro (e | e); exact a1.1.1 e; exact a1.1.2.1 e) (fun i hi => by rintro (e | e); exact (a1.2 i hi).2.1 e; exact (a1.2 i hi).2.2 e), ⟨l1.1, l1.2.1, by rcases k2 with e | e <;> omega, l1.2.2.2⟩, x.lv⟩,
    ⟨y.st.kt k3 (by rintro (e | e); exact a3.1 e; exact a3.2.1 e) (by rintro (e | e); exact d.2.1 e.symm; exact a3.2.2.1 e) (by rintro (e | e); exact a3.2.2.2 e; exact d.2.2.1 e.symm), y.rf.kt k3 (by rintro (e | e); exact a2.1.1 e; exact a2.1.2.1 e) (fun i hi => by rintro (e | e); exact (a2.2 i hi).2.1 e; exact (a2.2 i hi).2.2 e), y.lo, y.lv⟩,
    b.trans (k3.toBelow hs (by rintro i (e | e) <;> omega)), ⟨d.1, d.2.1, by rcases k2 with e | e; exact e ▸ d.2.2.1; omega, d.2.2.2⟩, e⟩
/-- A call changed the document's first store. -/
theorem PJ.ofR (x : Twin w0.heap.size s r tb g v M1 M2 w) (y : Twin w0.heap.size t q tc h u N1 N2 w) (b : Below w0.heap.size w0 w) (d : s ≠ t ∧ tb ≠ tc ∧ g ≠ h ∧ r ≠ q) (e : ∀ i, v.ownBlock = some i → u.ownBlock ≠ some i) {M' : Kvs} (k : ∃ v', RfAt r v' M' w' ∧ (v'.ownBlock = v.ownBlock ∨ ∀ q, v'.ownBlock = some q → w.heap.size ≤ q) ∧ Kt (fun i => i = r ∨ v.ownBlock = some i) w w') : PJ s r t q M1 M' N1 N2 w0 w' := by
  obtain ⟨v', k1, k2, k3⟩ := k
  have a1 := rf_st_apart x.st x.rf
  have a2 := rf_st_apart y.st x.rf
  have hs := b.size
  have l1 := x.lo
  have l2 := y.lt
  have hq : ∀ i, v.ownBlock = some i → q ≠ i := fun i hi e => by
    subst e
    exact absurd (row_typed x.rf.row hi y.rf.box) (by decide)
  have hr : ∀ i, u.ownBlock = some i → i ≠ r := fun i hi e => by
    subst e
    exact absurd (row_typed y.rf.row hi x.rf.box) (by decide)
  refine ⟨tb, g, v', tc, h, u, ⟨x.st.kt k3 (by rintro (e | e); exact a1.1.2.2 e.symm; exact (a1.2 _ e).1 rfl) (by rintro (e | e); exact a1.1.1 e.symm; exact (a1.2 _ e).2.1 rfl) (by rintro (e | e); exact a1.1.2.1 e.symm; exact (a1.2 _ e).2.2 rfl), k1, l1, fun i hi => ?_⟩,
    ⟨y.st.kt k3 (by rintro (e | e); exact a2.1.2.2 e.symm; exact (a2.2 _ e).1 rfl) (by rintro (e | e); exact a2.1.1 e.symm; exact (a2.2 _ e).2.1 rfl) (by rintro (e | e); exact a2.1.2.1 e.symm; exact (a2.2 _ e).2.2 rfl), y.rf.kt k3 (by rintro (e | e); exact d.2.2.2 e.symm; exact hq _ e rfl) (fun i hi => by rintro (a | a); exact hr i hi a; exact e i a hi), y.lo, y.lv⟩,
    b.trans (k3.toBelow hs (by rintro i (e | e); omega; exact x.lv i e)), d, fun i hi => ?_⟩
  · rcases k2 with a | a
    · exact x.lv i (a ▸ hi)
    · have := a i hi
      omega
  · rcases k2 with a | a
    · exact e i (a ▸ hi)
    · intro c
      have := a i hi
      have := l2.2 i c
      omega
end
end Go.Proofs.YtcjakgogdbfagaaDoor
namespace Go.Proofs.YtcjakgogdbfagaaDoor
open Go.RowKit
/-- What a call leaves. -/
def stepM (M : Kvs) (o : Opn) : Kvs := if o.kd = 0 then putS M o.k o.v else if o.kd = 1 then delL M o.k else M
theorem stepM_ok {M : Kvs} (h : MOk M) (o : Opn) : MOk (stepM M o) := by
  unfold stepM
  split
  · exact h.put _ _
  · split
    · exact h.del _
    · exact h
/-- Two stores, the document's two, and the box of a call. -/
def PX (Z : Nat) (c : Array Value) (s r t q : Nat) (M1 M2 N1 N2 : Kvs) (w0 w : World) : Prop := PJ s r t q M1 M2 N1 N2 w0 w ∧ w.heap[Z]? = some (.cells c 32 (0, 0))
section
variable {Z : Nat} {c : Array Value} {s r t q : Nat} {M1 M2 N1 N2 : Kvs} {w0 w w' : World}
theorem PX.below (j : PX Z c s r t q M1 M2 N1 N2 w0 w) (k : Below w.heap.size w w') : PX Z c s r t q M1 M2 N1 N2 w0 w' := ⟨j.1.below k, (k.block _ (heap_ltb j.2)).trans j.2⟩
theorem PX.bel (j : PX Z c s r t q M1 M2 N1 N2 w0 w) : Below w0.heap.size w0 w := j.1.bel
theorem PX.st (j : PX Z c s r t q M1 M2 N1 N2 w0 w) : ∃ tb g, StAt s tb g M1 w := j.1.st
theorem PX.rf (j : PX Z c s r t q M1 M2 N1 N2 w0 w) : ∃ v, RfAt r v M2 w := j.1.rf
theorem PX.cells {v0 v1 v2 v3 : Value} (j : PX Z #[v0, v1, v2, v3] s r t q M1 M2 N1 N2 w0 w) : w.cell? ⟨Z, 0, none⟩ = some v0 ∧ w.cell? ⟨Z, 1, none⟩ = some v1 ∧ w.cell? ⟨Z, 2, none⟩ = some v2 ∧ w.cell? ⟨Z, 3, none⟩ = some v3 :=
  ⟨Lib.cell_of_heap j.2 0, Lib.cell_of_heap j.2 1, Lib.cell_of_heap j.2 2, Lib.cell_of_heap j.2 3⟩
theorem PX.start (j : PJ s r t q M1 M2 N1 N2 w0 w) (c : Array Value) : PX w.heap.size c s r t q M1 M2 N1 N2 w0 (w.alloc (.cells c 32)) := ⟨j.below ((Below.refl _ w).alloc (Nat.le_refl _) _), heap_alloc_new w _⟩
theorem box_st {tb g : Nat} (x : StAt s tb g M1 w) (hz : w.heap[Z]? = some (.cells c 32 (0, 0))) (k : Kt (fun i => i = tb ∨ i = g) w w') : w'.heap[Z]? = some (.cells c 32 (0, 0)) := by
  obtain ⟨_, ⟨c1, t1⟩, ⟨c2, t2⟩⟩ := st_types x
  exact (k.block Z (heap_ltb hz) (by rintro (e | e); exact typ_ne hz t1 (by decide) e; exact typ_ne hz t2 (by decide) e)).trans hz
theorem box_rf {v : Value} (x : RfAt r v M2 w) (hz : w.heap[Z]? = some (.cells c 32 (0, 0))) (k : Kt (fun i => i = r ∨ v.ownBlock = some i) w w') : w'.heap[Z]? = some (.cells c 32 (0, 0)) := by
  refine (k.block Z (heap_ltb hz) (by rintro (e | e); exact typ_ne hz x.box (by decide) e; exact absurd (row_typed x.row e hz) (by decide))).trans hz
theorem pj_put (j : PX Z c s r t q M1 M2 N1 N2 w0 w) (hM : MOk M1) (k v : Bt) (hk : k.length ≤ 9223372036854775807) (hv : v.length ≤ 9223372036854775807) : Calls Tryd.prog 8 #[.pointer (some ⟨s, 0, none⟩), sv k, sv v] w fun e w1 => e = .returned (.int .i64 (putE M1 k v)) ∧ Hid (PX Z c s r t q (putS M1 k v) M2 N1 N2 w0 w1) := by
  obtain ⟨⟨tb, g, v', tc, h, u, x, y, b, d, f⟩, hz⟩ := j
  refine (sput_any s tb g M1 w k v x.st hk hv hM.len).mono ?_
  rintro e w1 ⟨rfl, H⟩
  have H2 := H.out
  obtain ⟨_, _, _, k3⟩ := H2
  exact ⟨rfl, hidb ⟨PJ.ofS x y b d f H.out, box_st x.st hz k3⟩⟩
theorem pj_rput (j : PX Z c s r t q M1 M2 N1 N2 w0 w) (hM : MOk M2) (k v : Bt) (hk : k.length ≤ 9223372036854775807) (hv : v.length ≤ 9223372036854775807) : Calls Tryd.prog 16 #[.pointer (some ⟨r, 0, none⟩), sv k, sv v] w fun e w1 => e = .returned (.int .i64 (putE M2 k v)) ∧ Hid (PX Z c s r t q M1 (putS M2 k v) N1 N2 w0 w1) := by
  obtain ⟨⟨tb, g, v', tc, h, u, x, y, b, d, f⟩, hz⟩ := j
  refine (rput_any r v' M2 w k v x.rf hM.srt hk hv hM.len).mono ?_
  rintro e w1 ⟨rfl, H⟩
  have H2 := H.out
  obtain ⟨_, _, _, k3⟩ := H2
  exact ⟨rfl, hidb ⟨PJ.ofR x y b d f H.out, box_rf x.rf hz k3⟩⟩
theorem pj_del (j : PX Z c s r t q M1 M2 N1 N2 w0 w) (k : Bt) : Calls Tryd.prog 17 #[.pointer (some ⟨s, 0, none⟩), sv k] w fun e w1 => e = .returned (.bool (getL M1 k).isSome) ∧ Hid (PX Z c s r t q (delL M1 k) M2 N1 N2 w0 w1) := by
  obtain ⟨⟨tb, g, v', tc, h, u, x, y, b, d, f⟩, hz⟩ := j
  refine (sdel_any s tb g M1 w k x.st).mono ?_
  rintro e w1 ⟨rfl, H⟩
  have H2 := H.out
  obtain ⟨_, _, _, k3⟩ := H2
  exact ⟨rfl, hidb ⟨PJ.ofS x y b d f H.out, box_st x.st hz k3⟩⟩
theorem pj_rdel (j : PX Z c s r t q M1 M2 N1 N2 w0 w) (hM : MOk M2) (k : Bt) : Calls Tryd.prog 18 #[.pointer (some ⟨r, 0, none⟩), sv k] w fun e w1 => e = .returned (.bool (getL M2 k).isSome) ∧ Hid (PX Z c s r t q M1 (delL M2 k) N1 N2 w0 w1) := by
  obtain ⟨⟨tb, g, v', tc, h, u, x, y, b, d, f⟩, hz⟩ := j
  refine (rdel_any r v' M2 w k x.rf hM.srt hM.len).mono ?_
  rintro e w1 ⟨rfl, H⟩
  have H2 := H.out
  obtain ⟨_, _, _, k3⟩ := H2
  exact ⟨rfl, hidb ⟨PJ.ofR x y b d f H.out, box_rf x.rf hz k3⟩⟩
theorem drewN_below (w : World) (m : Nat) : Below w.heap.size w (w.drewN m) := below_drewN (Below.refl _ w) m
theorem pj_get (j : PX Z c s r t q M1 M2 N1 N2 w0 w) (k : Bt) : Calls Tryd.prog 12 #[.pointer (some ⟨s, 0, none⟩), sv k] w fun e w1 => e = .returned (.tuple #[sv ((getL M1 k).getD []), .bool (getL M1 k).isSome]) ∧ Hid (PX Z c s r t q M1 M2 N1 N2 w0 w1) := by
  obtain ⟨tb, g, h⟩ := j.st
  refine (sget_any s tb g M1 w k h).mono ?_
  rintro e w1 ⟨e1, m, rfl⟩
  exact ⟨e1, hidb (j.below (drewN_below w m))⟩
theorem pj_rget (j : PX Z c s r t q M1 M2 N1 N2 w0 w) (hM : MOk M2) (k : Bt) : Calls Tryd.prog 19 #[.pointer (some ⟨r, 0, none⟩), sv k] w fun e w1 => e = .returned (.tuple #[sv ((getL M2 k).getD []), .bool (getL M2 k).isSome]) ∧ Hid (PX Z c s r t q M1 M2 N1 N2 w0 w1) := by
  obtain ⟨v, h⟩ := j.rf
  have hl := hM.len
  refine (rget_any r v M2 w k h hM.srt (by omega)).mono ?_
  rintro e w1 ⟨e1, m, rfl⟩
  exact ⟨e1, hidb (j.below (drewN_below w m))⟩
theorem pj_next (j : PX Z c s r t q M1 M2 N1 N2 w0 w) (k : Bt) : Calls Tryd.prog 9 #[.pointer (some ⟨s, 0, none⟩), sv k] w fun e w1 => e = .returned (.tuple #[sv ((nextL M1 k).getD []), .bool (nextL M1 k).isSome]) ∧ Hid (PX Z c s r t q M1 M2 N1 N2 w0 w1) := by
  obtain ⟨tb, g, h⟩ := j.st
  refine (snext_any s tb g M1 w k h).mono ?_
  rintro e w1 ⟨e1, m, rfl⟩
  exact ⟨e1, hidb (j.below (drewN_below w m))⟩
theorem pj_rnext (j : PX Z c s r t q M1 M2 N1 N2 w0 w) (hM : MOk M2) (k : Bt) : Calls Tryd.prog 20 #[.pointer (some ⟨r, 0, none⟩), sv k] w fun e w1 => e = .returned (.tuple #[sv ((nextL M2 k).getD []), .bool (nextL M2 k).isSome]) ∧ Hid (PX Z c s r t q M1 M2 N1 N2 w0 w1) := by
  obtain ⟨v, h⟩ := j.rf
  have hl := hM.len
  refine (rnext_any r v M2 w k h hM.srt (by omega)).mono ?_
  rintro e w1 ⟨e1, m, rfl⟩
  exact ⟨e1, hidb (j.below (drewN_below w m))⟩
/-- Both scans, and their comparison. -/
theorem pj_scanb {v0 v1 v2 v3 : Value} (j : PX Z #[v0, v1, v2, v3] s r t q M1 M1 N1 N2 w0 w) (hM : MOk M1) (fr tk : Bt) (m : Int) : Calls Tryd.prog 22 #[.pointer (some ⟨s, 0, none⟩), sv fr, sv tk, .int .i64 m] w fun e w1 => ∃ va n vc, e = .returned (.slice va n vc) ∧ (w1.cell? ⟨Z, 1, none⟩ = some v1 ∧ w1.cell? ⟨Z, 2, none⟩ = some v2 ∧ w1.cell? ⟨Z, 3, none⟩ = some v3) ∧ 
    Hid (Calls Tryd.prog 23 #[.pointer (some ⟨r, 0, none⟩), sv fr, sv tk, .int .i64 m] w1 fun e w2 => ∃ vb k vd, e = .returned (.slice vb k vd) ∧ (w2.cell? ⟨Z, 1, none⟩ = some v1 ∧ w2.cell? ⟨Z, 2, none⟩ = some v2 ∧ w2.cell? ⟨Z, 3, none⟩ = some v3) ∧ 
    Hid (Calls Tryd.prog 21 #[.slice va n vc, .slice vb k vd] w2 fun e w3 => e = .returned (.bool true) ∧ (w3.cell? ⟨Z, 1, none⟩ = some v1 ∧ w3.cell? ⟨Z, 2, none⟩ = some v2 ∧ w3.cell? ⟨Z, 3, none⟩ = some v3) ∧ Hid (PX Z #[v0, v1, v2, v3] s r t q M1 M1 N1 N2 w0 w3))) := by
  have key : Calls Tryd.prog 22 #[.pointer (some ⟨s, 0, none⟩), sv fr, sv tk, .int .i64 m] w fun e w1 => ∃ va n vc, e = .returned (.slice va n vc) ∧ PRow va n vc (scanA M1 fr tk m) w1 ∧ Below w.heap.size w w1 := by
    obtain ⟨tb, g, h⟩ := j.st
    by_cases hm : 0 ≤ m
    · refine (scan_f h hM.len fr tk m hm).mono ?_
      rintro e w1 ⟨va, n, vc, e1, _, H⟩
      rw [scanA_scanL hM.srt fr tk hm]
      exact ⟨va, n, vc, e1, H.out⟩
    · refine (scan_neg s tb g M1 fr tk m w h (by omega)).mono ?_
      rintro e w1 ⟨e1, hb⟩
      rw [scanA_neg (by omega)]
      exact ⟨none, 0, 0, e1, ⟨rfl, 0, World.ownsRow_nil _ _ _ _⟩, hb⟩
  refine key.mono ?_
  rintro e w1 ⟨va, n, vc, e1, hr, hb⟩
  have j1 := j.below hb
  obtain ⟨v, h1⟩ := j1.rf
  refine ⟨va, n, vc, e1, ⟨j1.cells.2.1, j1.cells.2.2.1, j1.cells.2.2.2⟩, hidb ((rscan_any r v M1 w1 fr tk m h1 hM.len).mono ?_)⟩
  rintro e w2 ⟨v2, rfl, hr2, hb2⟩
  obtain ⟨vb, vd, rfl, _⟩ := row_form hr2
  have hl := scanA_len M1 fr tk m
  have hl2 := hM.len
  have j2 := j1.below hb2
  refine ⟨vb, _, vd, rfl, ⟨j2.cells.2.1, j2.cells.2.2.1, j2.cells.2.2.2⟩, hidb ?_⟩
  have hn := hr.1
  subst hn
  refine (same11_yes _ va vb _ vc vd w2 (hr.below hb2) ⟨rfl, _, hr2⟩ (by omega)).mono ?_
  rintro e w3 ⟨e3, hb3⟩
  have j3 := j2.below hb3
  exact ⟨e3, ⟨j3.cells.2.1, j3.cells.2.2.1, j3.cells.2.2.2⟩, hidb j3⟩
end
end Go.Proofs.YtcjakgogdbfagaaDoor
