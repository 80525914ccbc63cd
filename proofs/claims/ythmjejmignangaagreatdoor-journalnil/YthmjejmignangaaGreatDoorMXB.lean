/- As COB, without scripts: a row's base. What the bound on the arguments' bulk gives. How sizes and slices that came in are read (out of layer 4's CO). Layer 16: what the cards share: sectors that came in; the library's variables as the rows list them, and a world that holds them. -/
import Derived.Test.YthmjejmignangaaGreatDoorRows
import Derived.Test.YthmjejmignangaaGreatDoorWA
import Derived.ProofKit
import Derived.OpenShut
import Derived.Deep.DeepHandedRow
import Derived.Lib.LaidTab
import Derived.Lib.SmallJoins
import Derived.SizedLaws
import Derived.Deep.SlicePairs
import Derived.ChangeMaps5
import Derived.Test.YthmjejmignangaaGreatDoorCards
import Derived.Test.YthmjejmignangaaGreatDoorTie
import Derived.Test.YthmjejmignangaaGreatDoorJKn
import Derived.Stop.LaidErr
namespace Go.Proofs.YthmjejmignangaaGreatDoor
set_option maxRecDepth 100000
open Go.ChangeShapes Go.WideShapes Go.ChangeAt Go.RowKit

theorem own : ownKnob Tryz.prog.godebug = none := by kernel_rfl
theorem laidOut : laidOutB Tryz.prog = true := by kernel_rfl
/-- A world for the witness: the settled one. -/
noncomputable def laidWorld (os : Os) : World := World.holding Tryz.prog os ⟨#[], #[], []⟩
theorem laid_met (os : Os) (args : Array Value) : laidMet Tryz.prog [] ((laidWorld os).forCall (fun _ _ => 0) ⟨#[], args, []⟩).memory :=
  laidMet_of_run' 20 (by kernel_rfl) (by kernel_rfl)
theorem int_wf {x : Int} (h : (Lit.int .i64 x).wf = true) : -9223372036854775808 ≤ x ∧ x ≤ 9223372036854775807 := by
  have h1 : IntKind.i64.min = -9223372036854775808 := rfl
  have h2 : IntKind.i64.max = 9223372036854775807 := rfl
  simp only [Lit.wf, Bool.and_eq_true, decide_eq_true_eq] at h
  omega
theorem open_txt {H : Type} {enc : TypeId × Value → H} {W : World} {base : Nat} {v : Value} {d : DataW H} {ps : List MemPlace} (hval : Value.okWide Tryz.prog W .any base 9 v) (hd : DataW.Trod enc Tryz.prog W 0 (fun _ => true) true 9 v d ps) : ∃ l : List UInt8, v = .string ⟨l.toArray⟩ ∧ l.length ≤ maxLen := by
  obtain ⟨s, rfl, rfl, rfl, hs⟩ := Go.ChangeMaps.open_string Tryz.underlying9 hval hd
  obtain ⟨⟨l⟩⟩ := s
  exact ⟨l, rfl, hs⟩
end Go.Proofs.YthmjejmignangaaGreatDoor
namespace Go.Proofs.YthmjejmignangaaGreatDoor.bulks

theorem pos {H : Type} (d : DataW H) : 1 ≤ Rows.uptoBulk d := by
  cases d with
  | lit l => cases l <;> simp [Rows.uptoBulk]
  | _ => simp [Rows.uptoBulk]
theorem many {H : Type} (l : List (DataW H)) : l.length ≤ Rows.uptoBulkAll l := by
  induction l with
  | nil => exact Nat.zero_le _
  | cons x r ih => have := pos x; simp only [Rows.uptoBulkAll, List.length_cons]; omega
theorem within {H : Type} {d : DataW H} {l : List (DataW H)} (h : d ∈ l) : Rows.uptoBulk d ≤ Rows.uptoBulkAll l := by
  induction l with
  | nil => cases h
  | cons x r ih =>
    simp only [Rows.uptoBulkAll]
    rcases List.mem_cons.1 h with e | e
    · subst e; omega
    · have := ih e; omega
theorem bound {H : Type} {l : List (DataW H)} (hk : Rows.uptoSmall H l = true) : Rows.uptoBulkAll l ≤ 1048576 := of_decide_eq_true hk
/-- A slice that came in: its places. -/
theorem places {H : Type} {l : List (DataW H)} {d : DataW H} {cap : Nat} (hb : Rows.uptoBulkAll l ≤ 1048576) (hm : d ∈ l) (h : (d = .nil ∧ cap = 0) ∨ ∃ el sp, d = .slice el sp ∧ el.length + sp.length = cap) : cap ≤ 1048576 := by
  rcases h with ⟨_, rfl⟩ | ⟨el, sp, rfl, rfl⟩
  · exact Nat.zero_le _
  · have h1 := within hm
    have h2 := many el
    have h3 := many sp
    simp only [Rows.uptoBulk] at h1
    omega
end Go.Proofs.YthmjejmignangaaGreatDoor.bulks
namespace Go.Proofs.YthmjejmignangaaGreatDoor
set_option maxRecDepth 100000
open Go.ChangeShapes Go.WideShapes Go.ChangeAt Go.RowKit
theorem weightsAll_mem {H : Type} {P : Program} {e : TypeId} : ∀ {l : List (DataW H)} {d : DataW H} {x : Nat}, d ∈ l → x ∈ d.weights P e → x ∈ DataW.weightsAll P e l
  | [], _, _, h, _ => by cases h
  | a :: r, d, x, h, hx => by
    unfold DataW.weightsAll
    rcases List.mem_cons.1 h with rfl | h
    · exact List.mem_append_left _ hx
    · exact List.mem_append_right _ (weightsAll_mem h hx)
theorem weightsEach_mem {H : Type} {P : Program} : ∀ {ts : List TypeId} {ds : List (DataW H)} {j : Nat} {t : TypeId} {d : DataW H} {x : Nat}, ts[j]? = some t → ds[j]? = some d → x ∈ d.weights P t → x ∈ DataW.weightsEach P ts ds
  | [], _, _, _, _, _, h, _, _ => by simp at h
  | _ :: _, [], _, _, _, _, _, h, _ => by simp at h
  | t0 :: ts, d0 :: ds, 0, _, _, _, h, h', hx => by
    simp at h h'
    subst h h'
    exact List.mem_append_left _ hx
  | t0 :: ts, d0 :: ds, j + 1, _, _, _, h, h', hx => by
    simp at h h'
    exact List.mem_append_right _ (weightsEach_mem h h' hx)
/-- The sizes of what came in: the bytes of each slice, and the whole's bulk. -/
def Sz {H : Type} (m : Nat) (P : Program) (t : TypeId) (d : DataW H) : Prop := (∀ k ∈ d.weights P t, k ≤ reachBytes) ∧ Rows.uptoBulk d ≤ m
theorem Sz.part {H : Type} {m : Nat} {P : Program} {t : TypeId} {fs : Array Field} {ds : List (DataW H)} (ht : P.underlying t = some (.struct fs)) (h : Sz m P t (.agg ds)) (j : Nat) {u : TypeId} {d : DataW H} (hu : (fs.toList.map (·.type))[j]? = some u) (hd : ds[j]? = some d) : Sz m P u d := by
  refine ⟨fun k hk => h.1 k ?_, ?_⟩
  · unfold DataW.weights
    rw [ht]
    exact weightsEach_mem hu hd hk
  · have h1 := h.2
    have h2 := bulks.within (List.mem_of_getElem? hd)
    simp only [Rows.uptoBulk] at h1
    omega
/-- A slice that came in, opened at each index. -/
theorem open_el {H : Type} {enc : TypeId × Value → H} {P : Program} {w : World} {t e : TypeId} {fuel : Nat} {v : Value} {m0 : Nat} {x : DataW H × List MemPlace} (ht : P.underlying t = some (.slice e)) (hpos : 0 < P.cellsOf e) (h : DataW.trod enc P w 0 (fun _ => true) true fuel t [v] = some x) (hs : Sz m0 P t x.1) :
    ∃ a0 len cap, v = .slice a0 len cap ∧ len * P.bytesOf e ≤ reachBytes ∧ len ≤ m0 ∧ (len = 0 ∨ ∃ b off, a0 = some ⟨b, off, none⟩ ∧ ∀ i, i < len → ∃ cs y n, cs.length = P.cellsOf e ∧ (∀ j, j < P.cellsOf e → w.cell? ⟨b, off + (i * P.cellsOf e + j), none⟩ = cs[j]?) ∧ DataW.trod enc P w 0 (fun _ => true) true n e cs = some y ∧ Sz m0 P e y.1) := by
  rcases Go.Deep.open_slice ht h with ⟨hcs, hx⟩ | ⟨a, len, cap, m, n, D, Pl, hcs, hb, hl, hm, hmm, rfl, hx⟩
  · simp only [List.cons.injEq, and_true] at hcs
    exact ⟨none, 0, 0, hcs, by simp, Nat.zero_le _, .inl rfl⟩
  · simp only [List.cons.injEq, and_true] at hcs
    simp only [if_true] at hmm
    subst hmm
    have hw : ∀ k ∈ ((List.range len).map D).length + ((List.range (m - len)).map fun j => D (len + j)).length |> fun z => (z * P.bytesOf e :: (DataW.weightsAll P e ((List.range len).map D) ++ DataW.weightsAll P e ((List.range (m - len)).map fun j => D (len + j)))), k ≤ reachBytes := by
      intro k hk
      refine hs.1 k ?_
      unfold DataW.weights
      rw [ht]
      exact hk
    have hbk := hs.2
    simp only [Rows.uptoBulk] at hbk
    refine ⟨some a, len, m, hcs, ?_, by have := bulks.many ((List.range len).map D); simp only [List.length_map, List.length_range] at this; omega, ?_⟩
    · have := hw _ (List.mem_cons_self ..)
      simp only [List.length_map, List.length_range] at this
      exact Nat.le_trans (Nat.mul_le_mul_right _ (by omega)) this
    · by_cases h0 : len = 0
      · exact .inl h0
      right
      obtain ⟨b, off, spot⟩ := a
      have hadd : ∀ (b off k : Nat), (⟨b, off, none⟩ : Addr).add k = ⟨b, off + k, none⟩ := fun b off k => by unfold Addr.add; split <;> simp_all
      have hspot : spot = none := by
        obtain ⟨cs', h1, _⟩ := hx 0 (by omega)
        obtain ⟨_, hlen, hcell⟩ := World.cells?_some h1
        have := hcell 0 hpos
        rw [List.getElem?_eq_getElem (by omega)] at this
        simpa [Addr.add] using World.cell?_spot this
      subst hspot
      refine ⟨b, off, rfl, fun i hi => ?_⟩
      obtain ⟨cs', h1, h2⟩ := hx i (by omega)
      obtain ⟨_, hlen, hcell⟩ := World.cells?_some h1
      refine ⟨cs', _, n, hlen, fun j hj => ?_, h2, fun k hk => ?_, ?_⟩
      · have := hcell j hj
        rw [Go.Deep.add_add, hadd] at this
        exact this
      · refine hw k (List.mem_cons_of_mem _ (List.mem_append_left _ (weightsAll_mem (d := D i) ?_ hk)))
        exact List.mem_map.2 ⟨i, List.mem_range.2 hi, rfl⟩
      · have := bulks.within (List.mem_map.2 ⟨i, List.mem_range.2 hi, rfl⟩ : D i ∈ (List.range len).map D)
        show Rows.uptoBulk (D i) ≤ m0
        omega
theorem reach_num : reachBytes = 140737488351232 := rfl
end Go.Proofs.YthmjejmignangaaGreatDoor
namespace Go.Proofs.YthmjejmignangaaGreatDoor
set_option maxRecDepth 100000
open Go.ChangeShapes Go.WideShapes Go.ChangeAt Go.RowKit
/-- Sectors that came in. -/
theorem open_secs16 {H : Type} {enc : TypeId × Value → H} {w : World} {a0 : Option Addr} {len cap : Nat} {d0 : DataW H} {p0 : List MemPlace} (h : DataW.Trod enc Tryz.prog w 0 (fun _ => true) true 22 (.slice a0 len cap) d0 p0)
    {ts : List TypeId} {ds : List (DataW H)} (hsz : (DataW.weightsEach Tryz.prog ts ds).all (· ≤ reachBytes) = true) {j : Nat} (ht : ts[j]? = some 22) (hd : ds[j]? = some d0) :
    ∃ L : List Sec, L.length = len ∧ SecO w a0 L ∧ len ≤ 5864062014805 ∧ ∀ s ∈ L, s.b.length ≤ 9223372036854775807 := by
  obtain ⟨fuel, hf⟩ := h
  have hf' : DataW.trod enc Tryz.prog w 0 (fun _ => true) true fuel 22 [.slice a0 len cap] = some (d0, p0) := by simpa [Value.cells] using hf
  have hS : Sz (Rows.uptoBulk d0) Tryz.prog 22 d0 := ⟨fun k hk => by simpa using List.all_eq_true.1 hsz k (weightsEach_mem ht hd hk), Nat.le_refl _⟩
  have be : Tryz.prog.bytesOf 75 = 24 := by kernel_rfl
  have ce : Tryz.prog.cellsOf 75 = 2 := by kernel_rfl
  have ci : Tryz.prog.cellsOf 4 = 1 := by kernel_rfl
  have cs' : Tryz.prog.cellsOf 9 = 1 := by kernel_rfl
  obtain ⟨a1, len1, cap1, e, hl, hm0, hr⟩ := open_el Tryz.underlying22 (by rw [ce]; omega) hf' hS
  injection e with e1 e2 e3
  subst e1 e2 e3
  rw [be, reach_num] at hl
  rcases hr with rfl | ⟨b, off, rfl, hr⟩
  · exact ⟨[], rfl, fun k y hy => (by cases hy), by omega, fun x h => by cases h⟩
  have each : ∀ i, i < len → ∃ z : Sec, (w.cell? ⟨b, off + i * 2, none⟩ = some (sv z.b) ∧ w.cell? ⟨b, off + i * 2 + 1, none⟩ = some (.bool z.bad)) ∧ z.b.length ≤ 9223372036854775807 := fun i hi => by
    obtain ⟨cs, y, n, hc, hcell, ht, _⟩ := hr i hi
    rw [ce] at hcell hc
    obtain ⟨y0, y1, m, _, _, h0, h1⟩ := trod_struct2 Tryz.underlying75 ht
    match cs, hc with
    | [c0, c1], _ =>
      simp [ci, cs'] at h0 h1
      obtain ⟨z0, e0, _, hw⟩ := DataW.trod_string Tryz.underlying9 h0
      obtain ⟨z1, e1, _⟩ := DataW.trod_bool Tryz.underlying4 h1
      simp only [List.cons.injEq, and_true] at e0 e1
      subst e0 e1
      obtain ⟨⟨l⟩⟩ := z0
      exact ⟨⟨l, z1⟩, ⟨by simpa using hcell 0 (by omega), by have := hcell 1 (by omega); rw [← Nat.add_assoc] at this; simpa using this⟩, hw⟩
  haveI : Inhabited Sec := ⟨noSec⟩
  obtain ⟨z, hz⟩ := Go.Deep.choose_lt each
  have hblk : ∀ i, i < len → b < w.heap.size := fun i hi => World.block_lt_of_cell? _ _ (hz i hi).1.1
  refine ⟨(List.range len).map z, by simp, fun k y hy => ?_, by omega, fun x hx => ?_⟩
  · rw [List.getElem?_map] at hy
    have hk := (List.getElem?_eq_some_iff.1 (show ((List.range len).map z)[k]? = some y by rw [List.getElem?_map]; exact hy)).1
    simp at hk
    rw [List.getElem?_range hk] at hy
    injection hy with hy
    subst hy
    exact ⟨b, off, rfl, hblk k hk, (hz k hk).1.1, (hz k hk).1.2⟩
  · obtain ⟨j, hj, rfl⟩ := List.mem_map.1 hx
    exact (hz j (List.mem_range.1 hj)).2
def laidList16 : List (String × DataW Unit) := [("unicode/utf8.acceptRanges", Rows.laid_unicode_utf8_acceptRanges), ("unicode/utf8.first", Rows.laid_unicode_utf8_first)]
def litsOf16 : DataW Unit → Array Value
  | .agg l => (l.map fun
    | .lit (.int k z) => [Value.int k z]
    | .agg r => r.map fun
      | .lit (.int k z) => Value.int k z
      | _ => undef
    | _ => []).flatten.toArray
  | _ => #[]
def putVar16 (cs : Array Value) : Obj → Obj
  | .cells _ t frozen => .cells cs t frozen
  | o => o
/-- A world for the witness: the settled one, the variables holding what their initialisers lay. -/
noncomputable def laidWorld16 (os : Os) : World :=
  let w0 := World.holding Tryz.prog os ⟨#[], #[], []⟩
  { w0 with heap := (w0.heap.modify 2 (putVar16 (litsOf16 Rows.laid_unicode_utf8_acceptRanges))).modify 1 (putVar16 (litsOf16 Rows.laid_unicode_utf8_first)) }
theorem laid_met16 (os : Os) (args : Array Value) : laidMet Tryz.prog laidList16 ((laidWorld16 os).forCall (fun _ _ => 0) ⟨#[], args, []⟩).memory :=
  laidMet_of_run' 20 (by kernel_rfl) (by kernel_rfl)
end Go.Proofs.YthmjejmignangaaGreatDoor
