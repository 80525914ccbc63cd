/- Layer 11: what the law knows. Layer 11: how ops that came in are read. Layer 11: the document's Put, whole; stores that are filled. -/
import Derived.Test.YtcjakgogdbfagaaQZ
import Derived.ProofKit
import Derived.OpenShut
import Derived.Deep.DeepHandedRow
import Derived.Lib.SmallJoins
import Derived.SizedLaws
import Derived.Deep.SlicePairs
import Derived.Test.YtcjakgogdbfagaaKJ
namespace Go.Proofs.Ytcjakgogdbfagaa
open Go.RowKit
/-- A store that was made since w0. -/
def KnS (sb : Nat) (L : Kvs) (w0 w : World) : Prop := ∃ tb g, StAt sb tb g L w ∧ Below w0.heap.size w0 w ∧ w0.heap.size ≤ sb ∧ w0.heap.size ≤ tb ∧ w0.heap.size ≤ g
/-- And its transaction. -/
def KnX (sb xb : Nat) (L M : Kvs) (w0 w : World) : Prop := ∃ b : TxB, b.xb = xb ∧ SX sb b L M 0 w ∧ (∀ i ∈ b.l, w0.heap.size ≤ i) ∧ w0.heap.size ≤ sb ∧ Below w0.heap.size w0 w
theorem kn_new (w : World) : Calls Try.prog 24 #[] w fun e w1 => ∃ sb, e = .returned (.pointer (some ⟨sb, 0, none⟩)) ∧ Hid (KnS sb [] w w1) := by
  refine (new_any w).mono ?_
  rintro e w1 ⟨sb, rfl, H⟩
  obtain ⟨tb, g, h1, h2, h3, h4, h5⟩ := H.out
  exact ⟨sb, rfl, hidb ⟨tb, g, h1, h5, h2, h3, h4⟩⟩
theorem kn_put {sb : Nat} {L : Kvs} {w0 w : World} (h : KnS sb L w0 w) (k v : Bt) (hk : k.length ≤ 9223372036854775807) (hv : v.length ≤ 9223372036854775807) (hL : L.length ≤ 512) : Calls Try.prog 25 #[.pointer (some ⟨sb, 0, none⟩), sv k, sv v] w fun e w1 => e = .returned (.int .i64 (putE L k v)) ∧ Hid (KnS sb (putS L k v) w0 w1) := by
  obtain ⟨tb, g, h1, h2, h3, h4, h5⟩ := h
  refine (sput_any sb tb g L w k v h1 hk hv hL).mono ?_
  rintro e w1 ⟨rfl, H⟩
  obtain ⟨g', q1, q2, q3⟩ := H.out
  have hs := h2.size
  exact ⟨rfl, hidb ⟨tb, g', q1, h2.trans (q3.toBelow hs (by rintro i (e | e) <;> omega)), h3, h4, by rcases q2 with e | e <;> omega⟩⟩
theorem kn_next {sb : Nat} {L : Kvs} {w0 w : World} (h : KnS sb L w0 w) (k : Bt) : Calls Try.prog 28 #[.pointer (some ⟨sb, 0, none⟩), sv k] w fun e w1 => e = .returned (.tuple #[sv ((nextL L k).getD []), .bool (nextL L k).isSome]) ∧ Hid (KnS sb L w0 w1) := by
  obtain ⟨tb, g, h1, h2, h3, h4, h5⟩ := h
  refine (snext_any sb tb g L w k h1).mono ?_
  rintro e w1 ⟨rfl, m, rfl⟩
  exact ⟨rfl, hidb ⟨tb, g, h1.drewN m, below_drewN h2 m, h3, h4, h5⟩⟩
theorem kn_begin {sb : Nat} {L : Kvs} {w0 w : World} (h : KnS sb L w0 w) : Calls Try.prog 5 #[.pointer (some ⟨sb, 0, none⟩)] w fun e w1 => ∃ xb, e = .returned (.pointer (some ⟨xb, 0, none⟩)) ∧ Hid (KnX sb xb L L w0 w1) := by
  obtain ⟨tb, g, h1, h2, h3, h4, h5⟩ := h
  refine (begin_i sb tb g L w h1).mono ?_
  rintro e w1 ⟨xb, rfl, H⟩
  obtain ⟨b, e1, e2, e3, q1, q2, q3⟩ := H.out
  have hs := h2.size
  refine ⟨xb, rfl, hidb ⟨b, e1, q1, fun i hi => ?_, h3, h2.trans (q3.mono hs)⟩⟩
  rcases q2 i hi with e | e | e <;> omega
theorem KnX.of {sb xb : Nat} {L' M' : Kvs} {w0 w w' : World} {b : TxB} {v : Value} {e : Ending} (h3 : ∀ i ∈ b.l, w0.heap.size ≤ i) (h4 : w0.heap.size ≤ sb) (h5 : Below w0.heap.size w0 w) (e1 : b.xb = xb) (hx : SXEnd sb b L' M' 0 v w e w') : e = .returned v ∧ Hid (KnX sb xb L' M' w0 w') := by
  obtain ⟨r, H⟩ := hx
  obtain ⟨b', q1, q2, q3, q4, q5⟩ := H.out
  have hs := h5.size
  refine ⟨r, hidb ⟨b', q2.trans e1, q1, fun i hi => ?_, h4, h5.trans (q5.toBelow hs h3)⟩⟩
  rcases q4 i hi with x | x
  · exact h3 i x
  · omega
theorem kn_save {sb xb : Nat} {L M : Kvs} {w0 w : World} (h : KnX sb xb L M w0 w) (k v : Bt) (hk : k.length ≤ 9223372036854775807) (hv : v.length ≤ 9223372036854775807) (hL : L.length ≤ 512) (hM : M.length ≤ 512) : Calls Try.prog 9 #[.pointer (some ⟨xb, 0, none⟩), sv k, sv v] w fun e w1 => e = .returned (.int .i64 (putE M k v)) ∧ Hid (KnX sb xb L (putS M k v) w0 w1) := by
  obtain ⟨b, e1, h2, h3, h4, h5⟩ := h
  subst e1
  exact (save_i sb b L M 0 w k v h2 hk hv hL hM).mono fun e w1 hx => KnX.of h3 h4 h5 rfl hx
theorem kn_commit {sb xb : Nat} {L M : Kvs} {w0 w : World} (h : KnX sb xb L M w0 w) (hL : L.length ≤ 512) (hM : M.length ≤ 512) (hsm : ∀ x ∈ M, x.1.length ≤ 281474976710656 ∧ x.2.length ≤ 281474976710656) : Calls Try.prog 17 #[.pointer (some ⟨xb, 0, none⟩)] w fun e w1 => e = .returned (.int .i64 0) ∧ Hid (KnX sb xb M M w0 w1) := by
  obtain ⟨b, e1, h2, h3, h4, h5⟩ := h
  subst e1
  exact (commit_i sb b L M 0 w h2 hL hM (by decide) hsm).mono fun e w1 hx => KnX.of h3 h4 h5 rfl hx
theorem kn_get {sb xb : Nat} {L M : Kvs} {w0 w : World} (h : KnX sb xb L M w0 w) (k : Bt) : Calls Try.prog 29 #[.pointer (some ⟨sb, 0, none⟩), sv k] w fun e w1 => e = .returned (.tuple #[sv ((getL L k).getD []), .bool (getL L k).isSome]) ∧ Hid (KnX sb xb L M w0 w1) := by
  obtain ⟨b, e1, h2, h3, h4, h5⟩ := h
  refine (sget_any sb _ _ L w k h2.st).mono ?_
  rintro e w1 ⟨rfl, m, rfl⟩
  exact ⟨rfl, hidb ⟨b, e1, h2.drewN m, h3, h4, below_drewN h5 m⟩⟩
theorem kn_len {sb xb : Nat} {L M : Kvs} {w0 w : World} (h : KnX sb xb L M w0 w) : Calls Try.prog 30 #[.pointer (some ⟨sb, 0, none⟩)] w fun e w1 => e = .returned (.int .i64 (L.length : Nat)) ∧ w1 = w := by
  obtain ⟨b, e1, h2, h3, h4, h5⟩ := h
  exact slen_any sb _ _ L w h2.st
theorem num11_any (x : Int) (w : World) : Calls Try.prog 8 #[.int .i64 x] w fun e w' => e = .returned (.int .i64 x) ∧ w' = w := by
  go_enter Try.func8, Try.ntmps8
  go_wp2
  go_ret
  exact ⟨rfl, rfl⟩
def kn1 : Kvs := [([98], [49])]
def kn2 : Kvs := [([97], [50]), ([98], [49])]
def kn3 : Kvs := [([97], [50]), ([98], [49]), ([99], [51])]
set_option maxRecDepth 100000 in
set_option maxHeartbeats 1000000 in
theorem knows11_any (w : World) : Calls Try.prog 6 #[] w fun e w' => e = .returned (.bool true) ∧ Below w.heap.size w w' := by
  have H0 := hidb (kn_new w)
  have H1 : Hid (∀ sb w1, KnS sb [] w w1 → Calls Try.prog 25 #[.pointer (some ⟨sb, 0, none⟩), sv [98], sv [49]] w1 fun e w2 => e = .returned (.int .i64 0) ∧ Hid (KnS sb kn1 w w2)) := hidb fun sb w1 h => kn_put h [98] [49] (by decide) (by decide) (by decide)
  have H2 : Hid (∀ sb w1, KnS sb kn1 w w1 → Calls Try.prog 25 #[.pointer (some ⟨sb, 0, none⟩), sv [97], sv [50]] w1 fun e w2 => e = .returned (.int .i64 0) ∧ Hid (KnS sb kn2 w w2)) := hidb fun sb w1 h => kn_put h [97] [50] (by decide) (by decide) (by decide)
  have H3 : Hid (∀ sb w1, KnS sb kn2 w w1 → Calls Try.prog 28 #[.pointer (some ⟨sb, 0, none⟩), sv []] w1 fun e w2 => e = .returned (.tuple #[sv [97], .bool true]) ∧ Hid (KnS sb kn2 w w2)) := hidb fun sb w1 h => kn_next h []
  have H4 : Hid (∀ sb w1, KnS sb kn2 w w1 → Calls Try.prog 5 #[.pointer (some ⟨sb, 0, none⟩)] w1 fun e w2 => ∃ xb, e = .returned (.pointer (some ⟨xb, 0, none⟩)) ∧ Hid (KnX sb xb kn2 kn2 w w2)) := hidb fun sb w1 h => kn_begin h
  have H5 : Hid (∀ sb xb w1, KnX sb xb kn2 kn2 w w1 → Calls Try.prog 9 #[.pointer (some ⟨xb, 0, none⟩), sv [99], sv [51]] w1 fun e w2 => e = .returned (.int .i64 0) ∧ Hid (KnX sb xb kn2 kn3 w w2)) := hidb fun sb xb w1 h => kn_save h [99] [51] (by decide) (by decide) (by decide) (by decide)
  have H6 : Hid (∀ sb xb w1, KnX sb xb kn2 kn3 w w1 → Calls Try.prog 29 #[.pointer (some ⟨sb, 0, none⟩), sv [99]] w1 fun e w2 => e = .returned (.tuple #[sv [], .bool false]) ∧ Hid (KnX sb xb kn2 kn3 w w2)) := hidb fun sb xb w1 h => kn_get h [99]
  have H7 : Hid (∀ sb xb w1, KnX sb xb kn2 kn3 w w1 → Calls Try.prog 17 #[.pointer (some ⟨xb, 0, none⟩)] w1 fun e w2 => e = .returned (.int .i64 0) ∧ Hid (KnX sb xb kn3 kn3 w w2)) := hidb fun sb xb w1 h => kn_commit h (by decide) (by decide) (by decide)
  have H8 : Hid (∀ sb xb w1, KnX sb xb kn3 kn3 w w1 → Calls Try.prog 29 #[.pointer (some ⟨sb, 0, none⟩), sv [99]] w1 fun e w2 => e = .returned (.tuple #[sv [51], .bool true]) ∧ Hid (KnX sb xb kn3 kn3 w w2)) := hidb fun sb xb w1 h => kn_get h [99]
  have H9 : Hid (∀ sb xb w1, KnX sb xb kn3 kn3 w w1 → Calls Try.prog 30 #[.pointer (some ⟨sb, 0, none⟩)] w1 fun e w2 => e = .returned (.int .i64 3) ∧ w2 = w1) := hidb fun sb xb w1 h => kn_len h
  have HN := hidb num11_any
  go_enter Try.func6, Try.ntmps6
  go_wp2_with (first
    | (go_at_call 24; refine H0.out.mono ?_; clear H0; rintro e w1 ⟨sb, rfl, K1⟩; replace H1 := hidb (H1.out sb w1 K1.out); clear K1)
    | (go_at_call 25; refine H1.out.mono ?_; clear H1; rintro e w2 ⟨rfl, K2⟩; replace H2 := hidb (H2.out sb w2 K2.out); clear K2)
    | (go_at_call 25; refine H2.out.mono ?_; clear H2; rintro e w3 ⟨rfl, K3⟩; replace H3 := hidb (H3.out sb w3 K3.out); clear K3)
    | (go_at_call 28; refine H3.out.mono ?_; clear H3; rintro e w4 ⟨rfl, K4⟩; replace H4 := hidb (H4.out sb w4 K4.out); clear K4)
    | (go_at_call 5; refine H4.out.mono ?_; clear H4; rintro e w5 ⟨xb, rfl, K5⟩; replace H5 := hidb (H5.out sb xb w5 K5.out); clear K5)
    | (go_at_call 9; refine H5.out.mono ?_; clear H5; rintro e w6 ⟨rfl, K6⟩; replace H6 := hidb (H6.out sb xb w6 K6.out); clear K6)
    | (go_at_call 29; refine H6.out.mono ?_; clear H6; rintro e w7 ⟨rfl, K7⟩; replace H7 := hidb (H7.out sb xb w7 K7.out); clear K7)
    | (go_at_call 17; refine H7.out.mono ?_; clear H7; rintro e w8 ⟨rfl, K8⟩; replace H8 := hidb (H8.out sb xb w8 K8.out); clear K8)
    | (go_at_call 29; refine H8.out.mono ?_; clear H8; rintro e w9 ⟨rfl, K9⟩; replace H9 := hidb (H9.out sb xb w9 K9.out))
    | (go_at_call 8; refine (HN.out _ _).mono ?_; rintro e wn ⟨rfl, rfl⟩)
    | (go_at_call 30; refine H9.out.mono ?_; clear H9; rintro e wl ⟨rfl, rfl⟩)
    | fail)
  go_ret
  obtain ⟨b, _, _, _, _, h5⟩ := K9.out
  exact ⟨rfl, h5⟩
end Go.Proofs.Ytcjakgogdbfagaa
namespace Go.Proofs.Ytcjakgogdbfagaa
set_option maxRecDepth 100000
open Go.ChangeShapes Go.WideShapes Go.ChangeAt Go.RowKit
/-- An op: what is done, a number, a key, a value. -/
structure Opn where
  (kd nn : Int) (k v : Bt)
def Opn.val (o : Opn) : Value := .agg #[.int .i64 o.kd, .int .i64 o.nn, sv o.k, sv o.v]
def Opn.ok (o : Opn) : Prop := (-9223372036854775808 ≤ o.kd ∧ o.kd ≤ 9223372036854775807) ∧ (-9223372036854775808 ≤ o.nn ∧ o.nn ≤ 9223372036854775807) ∧ o.k.length ≤ maxLen ∧ o.v.length ≤ maxLen
/-- Ops lie there. -/
def OpsAt (w : World) (a : Option Addr) (L : List Opn) : Prop := L = [] ∨ ∃ b off, a = some ⟨b, off, none⟩ ∧ b < w.heap.size ∧ ∀ j (h : j < L.length), w.cell? ⟨b, off + j * 4, none⟩ = some (.int .i64 L[j].kd) ∧ w.cell? ⟨b, off + j * 4 + 1, none⟩ = some (.int .i64 L[j].nn) ∧ w.cell? ⟨b, off + j * 4 + 2, none⟩ = some (sv L[j].k) ∧ w.cell? ⟨b, off + j * 4 + 3, none⟩ = some (sv L[j].v)
theorem OpsAt.below {w w' : World} {a : Option Addr} {L : List Opn} (h : OpsAt w a L) (k : Below w.heap.size w w') : OpsAt w' a L := by
  rcases h with h | ⟨b, off, e, hb, h⟩
  · exact .inl h
  · exact .inr ⟨b, off, e, Nat.lt_of_lt_of_le hb k.size, fun j hj => ⟨(k.cell (p := ⟨b, off + j * 4, none⟩) hb).trans (h j hj).1, (k.cell (p := ⟨b, off + j * 4 + 1, none⟩) hb).trans (h j hj).2.1, (k.cell (p := ⟨b, off + j * 4 + 2, none⟩) hb).trans (h j hj).2.2.1, (k.cell (p := ⟨b, off + j * 4 + 3, none⟩) hb).trans (h j hj).2.2.2⟩⟩
theorem int_wfK {x : Int} (h : (Lit.int .i64 x).wf = true) : -9223372036854775808 ≤ x ∧ x ≤ 9223372036854775807 := by
  have h1 : IntKind.i64.min = -9223372036854775808 := rfl
  have h2 : IntKind.i64.max = 9223372036854775807 := rfl
  simp only [Lit.wf, Bool.and_eq_true, decide_eq_true_eq] at h
  omega
theorem open_fourK {H : Type} {enc : TypeId × Value → H} {P : Program} {w : World} {base : Nat} {held : Bool} {t e : TypeId} {f0 f1 f2 f3 : Field} {fuel : Nat} {cs : List Value} {x : DataW H × List MemPlace} (ht : P.underlying t = some (.slice e)) (he : P.underlying e = some (.struct #[f0, f1, f2, f3]))
    (ce : P.cellsOf e = 4) (o0 : f0.offset = 0) (o1 : f1.offset = 1) (o2 : f2.offset = 2) (o3 : f3.offset = 3) (c0 : P.cellsOf f0.type = 1) (c1 : P.cellsOf f1.type = 1) (c2 : P.cellsOf f2.type = 1) (c3 : P.cellsOf f3.type = 1)
    (h : DataW.trod enc P w base (fun _ => true) held fuel t cs = some x) :
    (cs = [.slice none 0 0] ∧ x = (.nil, [])) ∨
    ∃ (a : Addr) (len cap n : Nat) (D : Nat → DataW H), cs = [.slice (some a) len cap] ∧ len ≤ cap ∧ cap ≤ maxLen ∧ x.1 = .slice ((List.range len).map D) ((List.range (cap - len)).map fun j => D (len + j)) ∧
      ∀ i, i < cap → ∃ v0 v1 v2 v3 y0 y1 y2 y3, w.cell? (a.add (i * 4)) = some v0 ∧ w.cell? (a.add (i * 4 + 1)) = some v1 ∧ w.cell? (a.add (i * 4 + 2)) = some v2 ∧ w.cell? (a.add (i * 4 + 3)) = some v3 ∧
        DataW.trod enc P w base (fun _ => true) held n f0.type [v0] = some y0 ∧ DataW.trod enc P w base (fun _ => true) held n f1.type [v1] = some y1 ∧ DataW.trod enc P w base (fun _ => true) held n f2.type [v2] = some y2 ∧ DataW.trod enc P w base (fun _ => true) held n f3.type [v3] = some y3 := by
  rcases Go.Deep.open_slice ht h with h0 | ⟨a, len, cap, m, n, D, Pl, rfl, hb, hl, hm, hmm, rfl, hx⟩
  · exact Or.inl h0
  right
  simp only [if_true] at hmm
  subst hmm
  refine ⟨a, len, m, n - 1, D, rfl, hl, hm, rfl, fun i hi => ?_⟩
  obtain ⟨cs', h1, h2⟩ := hx i hi
  rw [ce] at h1
  obtain ⟨_, hlen, hcell⟩ := World.cells?_some h1
  obtain ⟨xs, k, hk, hxy, _, hxl, hf⟩ := DataW.trod_struct he h2
  have hk' : k = n - 1 := by omega
  subst hk'
  match xs, hxl, cs', hlen with
  | [y0, y1, y2, y3], _, [v0, v1, v2, v3], _ =>
    have g0 := hf 0 f0 rfl
    have g1 := hf 1 f1 rfl
    have g2 := hf 2 f2 rfl
    have g3 := hf 3 f3 rfl
    simp [o0, o1, o2, o3, c0, c1, c2, c3] at g0 g1 g2 g3
    have e0 := hcell 0 (by omega)
    have e1 := hcell 1 (by omega)
    have e2 := hcell 2 (by omega)
    have e3 := hcell 3 (by omega)
    rw [Go.Deep.add_add] at e0 e1 e2 e3
    exact ⟨v0, v1, v2, v3, y0, y1, y2, y3, by simpa using e0, by simpa using e1, by simpa using e2, by simpa using e3, g0, g1, g2, g3⟩
theorem bytes_op : Try.prog.bytesOf 33 = 48 := by kernel_rfl
/-- A slice of ops that came in. -/
theorem open_ops {H : Type} {enc : TypeId × Value → H} {W : World} {a0 : Option Addr} {len cap : Nat} {d0 : DataW H} {p0 : List MemPlace} (h : DataW.Trod enc Try.prog W 0 (fun _ => true) true 22 (.slice a0 len cap) d0 p0)
    {ts : List TypeId} {ds : List (DataW H)} (hsz : (DataW.weightsEach Try.prog ts ds).all (· ≤ reachBytes) = true) {j : Nat} (ht : ts[j]? = some 22) (hd : ds[j]? = some d0) :
    ∃ L : List Opn, L.length = len ∧ OpsAt W a0 L ∧ (∀ x ∈ L, x.ok) ∧ len * 48 ≤ 140737488351232 := by
  obtain ⟨fuel, hf⟩ := h
  rcases open_fourK Try.underlying22 Try.underlying33 (by kernel_rfl) rfl rfl rfl rfl (by kernel_rfl) (by kernel_rfl) (by kernel_rfl) (by kernel_rfl) hf with ⟨hcs, hx⟩ | ⟨a, l', c, n, D, hcs, hl, hmx, hx, hr⟩
  · simp [Value.cells] at hcs
    obtain ⟨rfl, rfl, rfl⟩ := hcs
    exact ⟨[], rfl, .inl rfl, fun x h => by simp at h, by simp⟩
  · simp [Value.cells] at hcs
    obtain ⟨rfl, rfl, rfl⟩ := hcs
    simp only at hx
    have hlen : len * 48 ≤ 140737488351232 := by
      rw [hx] at hd
      have := sized_slice hsz ht hd Try.underlying22
      rw [bytes_op] at this
      simp only [List.length_map, List.length_range] at this
      have h2 : reachBytes = 140737488351232 := rfl
      rw [h2] at this
      omega
    have hadd : ∀ (b off k : Nat), (⟨b, off, none⟩ : Addr).add k = ⟨b, off + k, none⟩ := fun b off k => by unfold Addr.add; split <;> simp_all
    by_cases h0 : len = 0
    · subst h0
      exact ⟨[], rfl, .inl rfl, fun x h => by simp at h, by simp⟩
    obtain ⟨b, off, spot⟩ := a
    have hspot : spot = none := by
      obtain ⟨v0, _, _, _, _, _, _, _, q, _⟩ := hr 0 (by omega)
      simpa [Addr.add] using World.cell?_spot q
    subst hspot
    have hblk : b < W.heap.size := by
      obtain ⟨v0, _, _, _, _, _, _, _, q, _⟩ := hr 0 (by omega)
      rw [hadd] at q
      exact World.block_lt_of_cell? _ _ q
    have each : ∀ i, i < len → ∃ x : Opn, (W.cell? ⟨b, off + i * 4, none⟩ = some (.int .i64 x.kd) ∧ W.cell? ⟨b, off + i * 4 + 1, none⟩ = some (.int .i64 x.nn) ∧ W.cell? ⟨b, off + i * 4 + 2, none⟩ = some (sv x.k) ∧ W.cell? ⟨b, off + i * 4 + 3, none⟩ = some (sv x.v)) ∧ x.ok := by
      intro i hi
      obtain ⟨v0, v1, v2, v3, y0, y1, y2, y3, q0, q1, q2, q3, t0, t1, t2, t3⟩ := hr i (by omega)
      rw [hadd] at q0 q1 q2 q3
      obtain ⟨n0, e0, _, w0⟩ := DataW.trod_int Try.underlying3 t0
      obtain ⟨n1, e1, _, w1⟩ := DataW.trod_int Try.underlying3 t1
      obtain ⟨s2, e2, _, w2⟩ := DataW.trod_string Try.underlying9 t2
      obtain ⟨s3, e3, _, w3⟩ := DataW.trod_string Try.underlying9 t3
      simp only [List.cons.injEq, and_true] at e0 e1 e2 e3
      subst e0 e1 e2 e3
      obtain ⟨⟨l2⟩⟩ := s2
      obtain ⟨⟨l3⟩⟩ := s3
      exact ⟨⟨n0, n1, l2, l3⟩, ⟨q0, q1, q2, q3⟩, int_wfK w0, int_wfK w1, w2, w3⟩
    haveI : Inhabited Opn := ⟨⟨0, 0, [], []⟩⟩
    obtain ⟨x, hx'⟩ := Go.Deep.choose_lt each
    refine ⟨(List.range len).map x, by simp, .inr ⟨b, off, rfl, hblk, fun j hj => ?_⟩, fun y hy => ?_, hlen⟩
    · simp only [List.length_map, List.length_range] at hj
      simp only [List.getElem_map, List.getElem_range]
      exact (hx' j hj).1
    · obtain ⟨j, hj, rfl⟩ := List.mem_map.1 hy
      exact (hx' j (List.mem_range.1 hj)).2
/-- An op that came in. -/
theorem open_op {H : Type} {enc : TypeId × Value → H} {W : World} {base : Nat} {v : Value} {d : DataW H} {ps : List MemPlace} (hval : Value.okWide Try.prog W .any base 33 v) (h : DataW.Trod enc Try.prog W 0 (fun _ => true) true 33 v d ps) :
    ∃ o : Opn, v = o.val ∧ o.ok := by
  obtain ⟨cs, rfl, hsz⟩ := okWide_struct Try.underlying33 hval
  obtain ⟨fuel, hf⟩ := h
  have hsz' : cs.size = 4 := hsz.trans (by kernel_rfl)
  obtain ⟨l⟩ := cs
  have hl : l.length = 4 := by simpa using hsz'
  match l, hl with
  | [v0, v1, v2, v3], _ =>
    obtain ⟨xs, k, hk, hxy, _, hxl, hg⟩ := DataW.trod_struct Try.underlying33 hf
    match xs, hxl with
    | [y0, y1, y2, y3], _ =>
      have g0 := hg 0 _ rfl
      have g1 := hg 1 _ rfl
      have g2 := hg 2 _ rfl
      have g3 := hg 3 _ rfl
      have ci : Try.prog.cellsOf 3 = 1 := by kernel_rfl
      have cS : Try.prog.cellsOf 9 = 1 := by kernel_rfl
      simp [Value.cells, ci, cS] at g0 g1 g2 g3
      obtain ⟨n0, e0, _, w0⟩ := DataW.trod_int Try.underlying3 g0
      obtain ⟨n1, e1, _, w1⟩ := DataW.trod_int Try.underlying3 g1
      obtain ⟨s2, e2, _, w2⟩ := DataW.trod_string Try.underlying9 g2
      obtain ⟨s3, e3, _, w3⟩ := DataW.trod_string Try.underlying9 g3
      simp only [List.cons.injEq, and_true] at e0 e1 e2 e3
      subst e0 e1 e2 e3
      obtain ⟨⟨l2⟩⟩ := s2
      obtain ⟨⟨l3⟩⟩ := s3
      exact ⟨⟨n0, n1, l2, l3⟩, rfl, int_wfK w0, int_wfK w1, w2, w3⟩
end Go.Proofs.Ytcjakgogdbfagaa
namespace Go.Proofs.Ytcjakgogdbfagaa
open Go.RowKit
theorem cellsP_set : ∀ (L : Kvs) (j : Nat) (x : Bt × Bt) (h : j < L.length), L[j].1 = x.1 → cellsP (L.set j x) = (cellsP L).set (j * 2 + 1) (sv x.2)
  | [], j, x, h, _ => by simp at h
  | y :: L, 0, x, h, e => by
    rw [List.set_cons_zero, cellsP_consK, cellsP_consK]
    simp only [List.getElem_cons_zero] at e
    rw [e]
    rfl
  | y :: L, j + 1, x, h, e => by
    rw [List.set_cons_succ, cellsP_consK, cellsP_consK, cellsP_set L j x (by simp at h; omega) (by simpa using e), show (j + 1) * 2 + 1 = j * 2 + 1 + 1 + 1 by omega]
    rfl
theorem row_setR {W : World} {B n cc g j : Nat} {t : TypeId} {L : Kvs} {x : Bt × Bt} (h : W.ownsRow B t 2 (.slice (some ⟨g, 0, none⟩) n cc) L.length (cellsP L)) (hj : j < L.length) (e : L[j].1 = x.1) : (W.setCell ⟨g, j * 2 + 1, none⟩ (sv x.2)).ownsRow B t 2 (.slice (some ⟨g, 0, none⟩) n cc) (L.set j x).length (cellsP (L.set j x)) := by
  rcases h.2 with ⟨e0, _⟩ | ⟨g', cap, cur, e0, hb, hc, hn, hm, hs, ht⟩
  · cases e0
  · injection e0 with e1 e2 e3
    injection e1 with e1
    injection e1 with e1
    subst e1
    refine ⟨cellsP_len _, .inr ⟨g, cap, _, by rw [List.length_set, e2, e3], hb, heap_setCell_same W g (j * 2 + 1) _ _ (sv x.2) hc, by rw [List.length_set]; exact hn, hm, ?_, ?_⟩⟩
    · simpa using hs
    · rw [cellsP_set L j x hj e, ← ht, List.length_set]
      simp [List.take_set]
/-- What a call of the document's store leaves. -/
def RfEnd (rb : Nat) (v0 : Value) (L' : Kvs) (r : Value) (w : World) (e : Ending) (w' : World) : Prop := e = .returned r ∧ Hid (∃ v', RfAt rb v' L' w' ∧ (v'.ownBlock = v0.ownBlock ∨ ∀ q, v'.ownBlock = some q → w.heap.size ≤ q) ∧ Kt (fun i => i = rb ∨ v0.ownBlock = some i) w w')
theorem RfAt.same {rb : Nat} {v0 : Value} {L : Kvs} {w w' : World} (h : RfAt rb v0 L w) (m : ∃ m, w' = w.drewN m) (r : Value) : RfEnd rb v0 L r w (.returned r) w' := by
  obtain ⟨m, rfl⟩ := m
  exact ⟨rfl, hidb ⟨v0, h.drewN m, .inl rfl, (Kt.refl _ w).drewN m⟩⟩
set_option maxRecDepth 100000 in
set_option maxHeartbeats 1000000 in
theorem rput_any (rb : Nat) (v0 : Value) (L : Kvs) (w : World) (k v : Bt) (h : RfAt rb v0 L w) (s : SrtL L) (hk : k.length ≤ 9223372036854775807) (hv : v.length ≤ 9223372036854775807) (hL : L.length ≤ 512) :
    Calls Try.prog 10 #[.pointer (some ⟨rb, 0, none⟩), sv k, sv v] w (RfEnd rb v0 (putS L k v) (.int .i64 (putE L k v)) w) := by
  have HF := hidb (rfind_any rb v0 L w k h s (by omega))
  unfold putE putS
  cases hl : longB k v with
  | true =>
    have HE : Hid (∀ m, RfEnd rb v0 L (.int .i64 41) w (.returned (.int .i64 41)) (w.drewN m)) := hidb fun m => h.same ⟨m, rfl⟩ _
    simp only [if_true]
    clear h
    unfold longB at hl
    by_cases h1 : 32 < k.length
    · have hd1 : decide ((32 : Int) < k.length) = true := by simp; omega
      go_enter Try.func10, Try.ntmps10
      go_wp2_with (first
        | (go_at_call 37; refine HF.out.mono ?_; clear HF; rintro e w1 ⟨rfl, m1, rfl⟩)
        | fail)
      go_ret
      exact HE.out _
    · have hd1 : decide ((32 : Int) < k.length) = false := by simp; omega
      have hd2 : decide ((256 : Int) < v.length) = true := by simp at hl; simp; omega
      go_enter Try.func10, Try.ntmps10
      go_wp2_with (first
        | (go_at_call 37; refine HF.out.mono ?_; clear HF; rintro e w1 ⟨rfl, m1, rfl⟩)
        | fail)
      go_ret
      exact HE.out _
  | false =>
    simp only [Bool.false_eq_true, if_false]
    have hk2 : k.length ≤ 32 := by unfold longB at hl; simp at hl; omega
    have hv2 : v.length ≤ 256 := by unfold longB at hl; simp at hl; omega
    cases hg : getL L k with
    | none =>
      by_cases hf : 512 ≤ L.length
      · rw [if_pos ⟨rfl, hf⟩, if_pos ⟨rfl, hf⟩]
        have HE : Hid (∀ m, RfEnd rb v0 L (.int .i64 45) w (.returned (.int .i64 45)) (w.drewN m)) := hidb fun m => h.same ⟨m, rfl⟩ _
        obtain ⟨ca, cc, rfl, _⟩ := h.form
        have c0 := h.c
        rw [hg] at HF
        have hn : L.length = 512 := by omega
        rw [hn] at c0
        clear h hf
        have hd1 : decide ((32 : Int) < k.length) = false := by simp; omega
        have hd2 : decide ((256 : Int) < v.length) = false := by simp; omega
        go_enter Try.func10, Try.ntmps10
        go_wp2_with (first
          | (go_at_call 37; refine HF.out.mono ?_; clear HF; rintro e w1 ⟨rfl, m1, rfl⟩)
          | fail)
        go_ret
        exact HE.out _
      · rw [if_neg (fun e => hf e.2), if_neg (fun e => hf e.2)]
        refine (rput_new rb v0 L w k v h s hk2 hv2 (by omega) hg).mono ?_
        rintro e w' ⟨rfl, H⟩
        obtain ⟨v', q1, q2, q3⟩ := H.out
        exact ⟨rfl, hidb ⟨v', q1, .inr q2, q3.mono fun i _ e => .inl e⟩⟩
    | some u =>
      rw [if_neg (by simp), if_neg (by simp)]
      obtain ⟨hset, hp, _, hat⟩ := putL_set s (v := v) hg
      obtain ⟨ca, cc, rfl, _⟩ := h.form
      obtain ⟨g, rfl, hgl, e0, e1⟩ := row_pairR h.row hp
      have c0 := h.c
      have HE : Hid (∀ m, RfEnd rb (.slice (some ⟨g, 0, none⟩) L.length cc) (putL L k v) (.int .i64 0) w (.returned (.int .i64 0)) ((w.drewN m).setCell ⟨g, posL L k * 2 + 1, none⟩ (sv v))) := hidb fun m => by
        have h2 := h.drewN m
        have hr := row_setR (x := (k, v)) h2.row hp (by rw [hat])
        have hne : rb ≠ g := fun e => by
          subst e
          exact absurd (row_typed h.row (g := rb) rfl h.box) (by decide)
        refine ⟨rfl, hidb ⟨_, ⟨(Below.heap_setCell _ _ _ _ hne).trans h2.box, ?_⟩, .inl rfl, ((Kt.refl _ w).drewN m).set fun _ => .inr rfl⟩⟩
        rw [hset]
        exact hr
      have fz : w.frozen? ⟨g, posL L k * 2 + 1, none⟩ = false := by
        rcases h.row.2 with ⟨e0, _⟩ | ⟨g', cap, cur, e0, hb, hc, _⟩
        · cases e0
        · injection e0 with e1
          injection e1 with e1
          injection e1 with e1
          subst e1
          exact Lib.frozen_of_heap hc _
      rw [hg] at HF
      simp only [Option.isSome_some] at HF
      rw [hat] at e1
      simp only at e1
      clear h hset hat e0
      generalize posL L k = j at *
      generalize L.length = n at *
      have hd1 : decide ((32 : Int) < k.length) = false := by simp; omega
      have hd2 : decide ((256 : Int) < v.length) = false := by simp; omega
      go_enter Try.func10, Try.ntmps10
      go_wp2_with (first
        | (go_at_call 37; refine HF.out.mono ?_; clear HF; rintro e w1 ⟨rfl, m1, rfl⟩)
        | fail)
      go_ret
      exact HE.out _
end Go.Proofs.Ytcjakgogdbfagaa
