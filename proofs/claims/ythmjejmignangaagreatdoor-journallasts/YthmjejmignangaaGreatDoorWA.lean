/- What wire's smallest functions do: number reads bytes as a number, appendNumber writes one behind a slice, fresh copies a slice. As COB, without scripts: a row's base. What the bound on the arguments' bulk gives. How sizes and slices that came in are read (out of layer 4's CO). -/
import Derived.Test.YthmjejmignangaaGreatDoorProg
import Derived.Test.YthmjejmignangaaGreatDoorPlain
import Derived.WalkLawsBesides
import Derived.Laws.CopyOwn
import Derived.Test.YthmjejmignangaaGreatDoorRows
import Derived.ProofKit
import Derived.OpenShut
import Derived.Deep.DeepHandedRow
import Derived.Lib.LaidTab
import Derived.Lib.SmallJoins
import Derived.SizedLaws
import Derived.Deep.SlicePairs
import Derived.ChangeMaps5
namespace Go.Proofs.YthmjejmignangaaGreatDoor
open Go.RowKit

theorem ret_int {k : IntKind} {a b : Int} (h : a = b) : Ending.returned (.int k a) = .returned (.int k b) := by rw [h]

set_option maxHeartbeats 400000 in
theorem number_any (ao : Option Addr) (len cap : Nat) (bs : List UInt8) (w : World) (hl : bs.length = len) (hm : len ≤ 140737488355328) (hb : Bs w ao bs) :
    Calls Tryz.prog 93 #[.slice ao len cap] w fun e w' => e = .returned (.int .u64 (num bs : Nat)) ∧ w' = w := by
  go_enter Tryz.func93, Tryz.ntmps93
  go_wp2
  go_loop [3, 8] (fun n i => ∃ k : Nat, k ≤ len ∧ i = .int .i64 k ∧ n = .int .u64 (num (bs.take k) : Nat)) (fun _ i => len - (intOf i).toNat)
  case atStart => exact ⟨0, Nat.zero_le _, rfl, rfl⟩
  case round =>
    obtain ⟨k, hk, rfl, rfl⟩ := hrel
    by_cases hlt : k < len
    · rcases hb with hb | ⟨b, off, hao, hc⟩
      · subst hb; simp at hl; omega
      · subst hao
        have hck := hc k (by omega)
        have HS : Hid (num (bs.take (k + 1)) = numStep (num (bs.take k)) (bs[k]'(by omega))) := num_snoc bs k (by omega)
        have HB := numStep_bits (num (bs.take k)) (bs[k]'(by omega))
        clear hc
        go_wp2
        go_round
        case rel => exact ⟨k + 1, by omega, by go_num, by rw [HS.out]⟩
        case measure => simp [intOf]; omega
    · have HE : Hid (bs.take k = bs) := List.take_of_length_le (by omega)
      go_wp2
      go_ret
      exact ⟨ret_int (by rw [HE.out]), rfl⟩

theorem elem_u8 : Elem Tryz.prog 29 5 1 := by
  refine ⟨Tryz.underlying29, ?_⟩
  obtain ⟨i0, hi, hz0, hz1, hz2⟩ := info_parts (show (Tryz.prog.info? 5).map (fun i => (i.zero, i.size, i.bytes)) = some (some (.int .u8 0), 1, 1) by kernel_rfl)
  exact ⟨i0, _, hi, hz0, hz1, hz2, rfl⟩

/-- Owned bytes. -/
def OwnB (w : World) (base : Nat) (v : Value) (bs : List UInt8) : Prop := Own w base 5 v (bs.map bv)

set_option maxHeartbeats 400000 in
theorem appendNumber_any (base n size : Nat) (v : Value) (bs : List UInt8) (w : World) (hown : OwnB w base v bs) (hs : size ≤ 8)
    (hroom : bs.length + size ≤ 140737488355328) (hbase : base ≤ w.heap.size) :
    Calls Tryz.prog 108 #[v, .int .u64 n, .int .i64 size] w fun e w' => ∃ v', e = .returned v' ∧ OwnB w' base v' (bs ++ be n size) ∧ Step w v w' v' := by
  go_enter Tryz.func108, Tryz.ntmps108
  go_wp2
  go_loopw [0, 7] (fun u i wr => ∃ k : Nat, k ≤ size ∧ i = .int .i64 ((size : Int) - 1 - k) ∧ OwnB wr base u (bs ++ (be n size).take k) ∧ Step w v wr u) (fun _ i _ => (intOf i + 1).toNat)
  case atStart => exact ⟨0, Nat.zero_le _, by go_num, by simpa using hown, Step.refl _ _⟩
  case round =>
    obtain ⟨k, hk, rfl, ho, hst⟩ := hrel
    by_cases hlt : k < size
    · have hsz := hst.size
      have hl : (bs ++ (be n size).take k).length = bs.length + k := by simp [be_length]; omega
      generalize hxs : bs ++ (be n size).take k = xs at ho hl
      have Hxs : Hid (bs ++ (be n size).take k = xs) := hxs
      clear hxs
      go_wp2_with (at_builtin; refine wpList_app _ rfl _ _ _ _ rfl elem_u8 base _ _ rfl (ho.alloc _) _ rfl [bv (UInt8.ofNat (n / 256 ^ (size - 1 - k)))] (src_one _ Tryz.underlying29 _ _ _ (by rw [be_byte]) rfl _) ?c1 ?c2 ?c3 ?_)
      case c1 => simp only [List.length_map, List.length_singleton, hl]; unfold maxLen; omega
      case c2 => simp only [List.length_map, List.length_singleton, hl]; omega
      case c3 => simp; omega
      intro v1 w1 ho1 hst1
      have R1 : OwnB w1 base v1 (bs ++ List.take (k + 1) (be n size)) := by
        unfold OwnB
        rw [be_take n size k hlt, ← List.append_assoc, Hxs.out, List.map_append]
        exact ho1
      have R2 : Step w v w1 v1 := (hst.alloc _).trans hst1
      clear ho1 hst1 ho hst
      go_wp2
      go_roundw
      case rel => exact ⟨k + 1, by omega, by go_num, R1, R2⟩
      case measure => simp [intOf]; omega
    · have HE : Hid ((be n size).take k = be n size) := List.take_of_length_le (by rw [be_length]; omega)
      go_wp2
      go_ret
      rw [HE.out] at ho
      exact ⟨_, rfl, ho, hst⟩

theorem appendNumber_at (base n size : Nat) (N S : Int) (v : Value) (bs : List UInt8) (w : World) (hN : N = (n : Int)) (hS : S = (size : Int)) (hown : OwnB w base v bs) (hs : size ≤ 8)
    (hroom : bs.length + size ≤ 140737488355328) (hbase : base ≤ w.heap.size) :
    Calls Tryz.prog 108 #[v, .int .u64 N, .int .i64 S] w fun e w' => ∃ v', e = .returned v' ∧ OwnB w' base v' (bs ++ be n size) ∧ Step w v w' v' := by
  subst hN; subst hS
  exact appendNumber_any base n size v bs w hown hs hroom hbase

set_option maxHeartbeats 400000 in
theorem fresh_any (ao : Option Addr) (len cap : Nat) (bs : List UInt8) (w : World) (hl : bs.length = len) (hm : len ≤ 140737488355328) (hb : Bs w ao bs) :
    Calls Tryz.prog 92 #[.slice ao len cap] w fun e w' => e = .returned (.slice (some ⟨w.heap.size, 0, none⟩) len len) ∧ OwnB w' w.heap.size (.slice (some ⟨w.heap.size, 0, none⟩) len len) bs ∧ Below w.heap.size w w' := by
  obtain ⟨i0, hi, hz0, hz1, hz2⟩ := info_parts (show (Tryz.prog.info? 5).map (fun i => (i.zero, i.size, i.bytes)) = some (some (.int .u8 0), 1, 1) by kernel_rfl)
  go_enter Tryz.func92, Tryz.ntmps92
  go_wp2_with (first | (at_make; refine wpList_make_full _ rfl _ _ 29 rfl w.heap.size 5 i0 (.int .u8 0) 1 Tryz.underlying29 hi hz0 hz1 _ _ _ _ len rfl rfl rfl rfl ?b1 ?b2 ?b3 ?_))
  case b1 => rw [hz2]; omega
  case b2 => unfold maxLen; omega
  case b3 => exact Nat.le_refl _
  intro w1 ho1 hg1
  obtain ⟨cur, hcur, hh⟩ : ∃ cur : List Value, cur.length = len ∧ w1.heap[w.heap.size]? = some (.cells cur.toArray 5 (0, 0)) := by
    rcases ho1.2 with ⟨h, _⟩ | ⟨g, cap', cur, h, _, hg, _, _, hsz, _⟩
    · cases h
    · cases h
      exact ⟨cur.toList, by simpa using hsz, by simpa using hg⟩
  have hb1 : Below w.heap.size w w1 := (Below.refl _ w).grown hg1 (Nat.le_refl _) (fun k h => by cases h)
  have HB : Bs w1 ao bs := by
    rcases hb with h | ⟨b, off, h, hc⟩
    · exact .inl h
    · refine .inr ⟨b, off, h, fun j hj => ?_⟩
      have := hc j hj
      rw [hb1.cell (p := ⟨b, off + j, none⟩) (World.block_lt_of_cell? _ _ this)]
      exact this
  obtain ⟨cs, hcs⟩ : ∃ cs, cs = bs.map bv := ⟨_, rfl⟩
  have hcl : cs.length = len := by rw [hcs, List.length_map, hl]
  have HD : Hid (0 < cs.length → ∃ ad, ao = some ad ∧ ∀ j v, cs[j]? = some v → w1.cell? (ad.add j) = some v) := by
    intro h0
    rcases HB with h | ⟨b, off, h, hc⟩
    · subst h; simp [hcs] at h0
    · refine ⟨⟨b, off, none⟩, h, fun j u hu => ?_⟩
      have hadd : (⟨b, off, none⟩ : Addr).add j = ⟨b, off + j, none⟩ := by unfold Addr.add; split <;> simp_all
      rw [hadd]
      rw [hcs, List.getElem?_map] at hu
      obtain ⟨x, hx, rfl⟩ := Option.map_eq_some_iff.1 hu
      obtain ⟨hj, rfl⟩ := List.getElem?_eq_some_iff.1 hx
      exact hc j hj
  have HO : Hid (∀ u ∈ cs, u.oneCell' = true) := by intro u hu; rw [hcs] at hu; obtain ⟨_, _, rfl⟩ := List.mem_map.1 hu; rfl
  have HC : Hid (cs = bs.map bv) := hcs
  clear ho1 hg1 hb HB hcs
  go_wp2_with (refine wpList_copy_splice rfl (.tmp 7) (.tmp 8) 29 29 rfl 5 Tryz.underlying29 (by rw [hi]; simp [hz1]) _ _ _ _ _ _ rfl rfl w.heap.size 0 cur 5 hh cs (by simp [hcl]) (fun h => ⟨rfl, HD.out h⟩) (by simp [hcl, hcur]) HO.out w.heap.size w hb1 (Nat.le_refl _) ?_)
  intro w2 HG hb2
  go_wp2
  go_ret
  have e : splice cur 0 cs = cs := by
    have : cur.drop cs.length = [] := List.drop_eq_nil_of_le (by omega)
    simp [splice, this]
  have hg2 := HG.out
  rw [e] at hg2
  refine ⟨rfl, ?_, hb2⟩
  unfold OwnB Own
  rw [← HC.out, hcl]
  exact ⟨by omega, .inr ⟨w.heap.size, len, _, rfl, Nat.le_refl _, hg2, Nat.le_refl _, by unfold maxLen; omega, by simp [hcl], List.take_of_length_le (by simp [hcl])⟩⟩

end Go.Proofs.YthmjejmignangaaGreatDoor
namespace Go.Proofs.YthmjejmignangaaGreatDoor
set_option maxRecDepth 100000
open Go.ChangeShapes Go.WideShapes Go.ChangeAt Go.RowKit

theorem own : ownKnob Tryz.prog.godebug = none := by kernel_rfl
theorem laidOut : laidOutB Tryz.prog = true := by kernel_rfl
/-- A world for the witness: the settled one. -/
noncomputable def laidWorld (os : Os) : World := World.holding Tryz.prog os ⟨#[], #[], []⟩
theorem laid_met (os : Os) (args : Array Value) : laidMet Tryz.prog [] ((laidWorld os).forCall (fun _ _ => 0) ⟨#[], args, []⟩).memory :=
  laidMet_of_run' 20 (by kernel_rfl) (by kernel_rfl)
theorem int_wf {x : Int} (h : (Lit.int .i64 x).wf = true) : -9223372036854775808 ≤ x ∧ x ≤ 9223372036854775807 := by
  have h1 : IntKind.i64.min = -9223372036854775808 := rfl
  have h2 : IntKind.i64.max = 9223372036854775807 := rfl
  simp only [Lit.wf, Bool.and_eq_true, decide_eq_true_eq] at h
  omega
theorem open_txt {H : Type} {enc : TypeId × Value → H} {W : World} {base : Nat} {v : Value} {d : DataW H} {ps : List MemPlace} (hval : Value.okWide Tryz.prog W .any base 9 v) (hd : DataW.Trod enc Tryz.prog W 0 (fun _ => true) true 9 v d ps) : ∃ l : List UInt8, v = .string ⟨l.toArray⟩ ∧ l.length ≤ maxLen := by
  obtain ⟨s, rfl, rfl, rfl, hs⟩ := Go.ChangeMaps.open_string Tryz.underlying9 hval hd
  obtain ⟨⟨l⟩⟩ := s
  exact ⟨l, rfl, hs⟩
end Go.Proofs.YthmjejmignangaaGreatDoor
namespace Go.Proofs.YthmjejmignangaaGreatDoor.bulks

theorem pos {H : Type} (d : DataW H) : 1 ≤ Rows.uptoBulk d := by
  cases d with
  | lit l => cases l <;> simp [Rows.uptoBulk]
  | _ => simp [Rows.uptoBulk]
theorem many {H : Type} (l : List (DataW H)) : l.length ≤ Rows.uptoBulkAll l := by
  induction l with
  | nil => exact Nat.zero_le _
  | cons x r ih => have := pos x; simp only [Rows.uptoBulkAll, List.length_cons]; omega
theorem within {H : Type} {d : DataW H} {l : List (DataW H)} (h : d ∈ l) : Rows.uptoBulk d ≤ Rows.uptoBulkAll l := by
  induction l with
  | nil => cases h
  | cons x r ih =>
    simp only [Rows.uptoBulkAll]
    rcases List.mem_cons.1 h with e | e
    · subst e; omega
    · have := ih e; omega
theorem bound {H : Type} {l : List (DataW H)} (hk : Rows.uptoSmall H l = true) : Rows.uptoBulkAll l ≤ 1048576 := of_decide_eq_true hk
/-- A slice that came in: its places. -/
theorem places {H : Type} {l : List (DataW H)} {d : DataW H} {cap : Nat} (hb : Rows.uptoBulkAll l ≤ 1048576) (hm : d ∈ l) (h : (d = .nil ∧ cap = 0) ∨ ∃ el sp, d = .slice el sp ∧ el.length + sp.length = cap) : cap ≤ 1048576 := by
  rcases h with ⟨_, rfl⟩ | ⟨el, sp, rfl, rfl⟩
  · exact Nat.zero_le _
  · have h1 := within hm
    have h2 := many el
    have h3 := many sp
    simp only [Rows.uptoBulk] at h1
    omega
end Go.Proofs.YthmjejmignangaaGreatDoor.bulks
namespace Go.Proofs.YthmjejmignangaaGreatDoor
set_option maxRecDepth 100000
open Go.ChangeShapes Go.WideShapes Go.ChangeAt Go.RowKit
theorem weightsAll_mem {H : Type} {P : Program} {e : TypeId} : ∀ {l : List (DataW H)} {d : DataW H} {x : Nat}, d ∈ l → x ∈ d.weights P e → x ∈ DataW.weightsAll P e l
  | [], _, _, h, _ => by cases h
  | a :: r, d, x, h, hx => by
    unfold DataW.weightsAll
    rcases List.mem_cons.1 h with rfl | h
    · exact List.mem_append_left _ hx
    · exact List.mem_append_right _ (weightsAll_mem h hx)
theorem weightsEach_mem {H : Type} {P : Program} : ∀ {ts : List TypeId} {ds : List (DataW H)} {j : Nat} {t : TypeId} {d : DataW H} {x : Nat}, ts[j]? = some t → ds[j]? = some d → x ∈ d.weights P t → x ∈ DataW.weightsEach P ts ds
  | [], _, _, _, _, _, h, _, _ => by simp at h
  | _ :: _, [], _, _, _, _, _, h, _ => by simp at h
  | t0 :: ts, d0 :: ds, 0, _, _, _, h, h', hx => by
    simp at h h'
    subst h h'
    exact List.mem_append_left _ hx
  | t0 :: ts, d0 :: ds, j + 1, _, _, _, h, h', hx => by
    simp at h h'
    exact List.mem_append_right _ (weightsEach_mem h h' hx)
/-- The sizes of what came in: the bytes of each slice, and the whole's bulk. -/
def Sz {H : Type} (m : Nat) (P : Program) (t : TypeId) (d : DataW H) : Prop := (∀ k ∈ d.weights P t, k ≤ reachBytes) ∧ Rows.uptoBulk d ≤ m
theorem Sz.part {H : Type} {m : Nat} {P : Program} {t : TypeId} {fs : Array Field} {ds : List (DataW H)} (ht : P.underlying t = some (.struct fs)) (h : Sz m P t (.agg ds)) (j : Nat) {u : TypeId} {d : DataW H} (hu : (fs.toList.map (·.type))[j]? = some u) (hd : ds[j]? = some d) : Sz m P u d := by
  refine ⟨fun k hk => h.1 k ?_, ?_⟩
  · unfold DataW.weights
    rw [ht]
    exact weightsEach_mem hu hd hk
  · have h1 := h.2
    have h2 := bulks.within (List.mem_of_getElem? hd)
    simp only [Rows.uptoBulk] at h1
    omega
/-- A slice that came in, opened at each index. -/
theorem open_el {H : Type} {enc : TypeId × Value → H} {P : Program} {w : World} {t e : TypeId} {fuel : Nat} {v : Value} {m0 : Nat} {x : DataW H × List MemPlace} (ht : P.underlying t = some (.slice e)) (hpos : 0 < P.cellsOf e) (h : DataW.trod enc P w 0 (fun _ => true) true fuel t [v] = some x) (hs : Sz m0 P t x.1) :
    ∃ a0 len cap, v = .slice a0 len cap ∧ len * P.bytesOf e ≤ reachBytes ∧ len ≤ m0 ∧ (len = 0 ∨ ∃ b off, a0 = some ⟨b, off, none⟩ ∧ ∀ i, i < len → ∃ cs y n, cs.length = P.cellsOf e ∧ (∀ j, j < P.cellsOf e → w.cell? ⟨b, off + (i * P.cellsOf e + j), none⟩ = cs[j]?) ∧ DataW.trod enc P w 0 (fun _ => true) true n e cs = some y ∧ Sz m0 P e y.1) := by
  rcases Go.Deep.open_slice ht h with ⟨hcs, hx⟩ | ⟨a, len, cap, m, n, D, Pl, hcs, hb, hl, hm, hmm, rfl, hx⟩
  · simp only [List.cons.injEq, and_true] at hcs
    exact ⟨none, 0, 0, hcs, by simp, Nat.zero_le _, .inl rfl⟩
  · simp only [List.cons.injEq, and_true] at hcs
    simp only [if_true] at hmm
    subst hmm
    have hw : ∀ k ∈ ((List.range len).map D).length + ((List.range (m - len)).map fun j => D (len + j)).length |> fun z => (z * P.bytesOf e :: (DataW.weightsAll P e ((List.range len).map D) ++ DataW.weightsAll P e ((List.range (m - len)).map fun j => D (len + j)))), k ≤ reachBytes := by
      intro k hk
      refine hs.1 k ?_
      unfold DataW.weights
      rw [ht]
      exact hk
    have hbk := hs.2
    simp only [Rows.uptoBulk] at hbk
    refine ⟨some a, len, m, hcs, ?_, by have := bulks.many ((List.range len).map D); simp only [List.length_map, List.length_range] at this; omega, ?_⟩
    · have := hw _ (List.mem_cons_self ..)
      simp only [List.length_map, List.length_range] at this
      exact Nat.le_trans (Nat.mul_le_mul_right _ (by omega)) this
    · by_cases h0 : len = 0
      · exact .inl h0
      right
      obtain ⟨b, off, spot⟩ := a
      have hadd : ∀ (b off k : Nat), (⟨b, off, none⟩ : Addr).add k = ⟨b, off + k, none⟩ := fun b off k => by unfold Addr.add; split <;> simp_all
      have hspot : spot = none := by
        obtain ⟨cs', h1, _⟩ := hx 0 (by omega)
        obtain ⟨_, hlen, hcell⟩ := World.cells?_some h1
        have := hcell 0 hpos
        rw [List.getElem?_eq_getElem (by omega)] at this
        simpa [Addr.add] using World.cell?_spot this
      subst hspot
      refine ⟨b, off, rfl, fun i hi => ?_⟩
      obtain ⟨cs', h1, h2⟩ := hx i (by omega)
      obtain ⟨_, hlen, hcell⟩ := World.cells?_some h1
      refine ⟨cs', _, n, hlen, fun j hj => ?_, h2, fun k hk => ?_, ?_⟩
      · have := hcell j hj
        rw [Go.Deep.add_add, hadd] at this
        exact this
      · refine hw k (List.mem_cons_of_mem _ (List.mem_append_left _ (weightsAll_mem (d := D i) ?_ hk)))
        exact List.mem_map.2 ⟨i, List.mem_range.2 hi, rfl⟩
      · have := bulks.within (List.mem_map.2 ⟨i, List.mem_range.2 hi, rfl⟩ : D i ∈ (List.range len).map D)
        show Rows.uptoBulk (D i) ≤ m0
        omega
theorem reach_num : reachBytes = 140737488351232 := rfl
end Go.Proofs.YthmjejmignangaaGreatDoor
