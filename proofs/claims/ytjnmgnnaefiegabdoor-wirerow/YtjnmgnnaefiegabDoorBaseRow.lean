/- How a slice of slices of bytes that came in is read. -/
import Derived.Test.YtjnmgnnaefiegabDoorBase
import Derived.Test.YtjnmgnnaefiegabDoorLRow
import Derived.Deep.Matrix
namespace Go.Proofs.YtjnmgnnaefiegabDoor
open Go.ChangeShapes Go.WideShapes Go.ChangeAt Go.RowKit

theorem weights_all_mem {H : Type} {P : Program} {e : TypeId} : ∀ {l : List (DataW H)} {d : DataW H} {x : Nat}, d ∈ l → x ∈ d.weights P e → x ∈ DataW.weightsAll P e l
  | [], _, _, h, _ => by cases h
  | a :: r, d, x, h, hx => by
    unfold DataW.weightsAll
    rcases List.mem_cons.1 h with rfl | h
    · exact List.mem_append_left _ hx
    · exact List.mem_append_right _ (weights_all_mem h hx)
theorem weights_each_mem {H : Type} {P : Program} : ∀ {ts : List TypeId} {ds : List (DataW H)} {j : Nat} {t : TypeId} {d : DataW H} {x : Nat}, ts[j]? = some t → ds[j]? = some d → x ∈ d.weights P t → x ∈ DataW.weightsEach P ts ds
  | [], _, _, _, _, _, h, _, _ => by simp at h
  | _ :: _, [], _, _, _, _, _, h, _ => by simp at h
  | t0 :: ts, d0 :: ds, 0, _, _, _, h, h', hx => by
    simp at h h'
    subst h h'
    exact List.mem_append_left _ hx
  | t0 :: ts, d0 :: ds, j + 1, _, _, _, h, h', hx => by
    simp at h h'
    exact List.mem_append_right _ (weights_each_mem h h' hx)
/-- A slice of byte slices that came in. -/
theorem open_bytess {H : Type} {enc : TypeId × Value → H} {W : World} {a0 : Option Addr} {len cap : Nat} {d0 : DataW H} {p0 : List MemPlace} {ts : List TypeId} {ds : List (DataW H)} {j : Nat} (h : DataW.Trod enc Tryd.prog W 0 (fun _ => true) true 22 (.slice a0 len cap) d0 p0)
    (hsz : (DataW.weightsEach Tryd.prog ts ds).all (· ≤ reachBytes) = true) (ht : ts[j]? = some 22) (hd : ds[j]? = some d0) :
    ∃ L : List (List UInt8), L.length = len ∧ len ≤ cap ∧ Bss W a0 L ∧ (∀ i (h : i < L.length), L[i].length ≤ 140737488351232) ∧ cap * 24 ≤ 140737488351232 := by
  obtain ⟨fuel, hf⟩ := h
  have hall := List.all_eq_true.1 hsz
  rcases Go.Deep.open_int_rows Tryd.underlying22 Tryd.underlying23 Tryd.underlying5 (by kernel_rfl) (by kernel_rfl) hf with ⟨hcs, hx⟩ | ⟨a, l, c, A, Ln, C, Z, hcs, _, hl, hm, hx, hr⟩
  · simp [Value.cells] at hcs
    obtain ⟨rfl, rfl, rfl⟩ := hcs
    exact ⟨[], rfl, Nat.le_refl _, .inl rfl, (fun i h => by simp at h), by decide⟩
  · simp [Value.cells] at hcs
    obtain ⟨rfl, rfl, rfl⟩ := hcs
    simp only [Prod.mk.injEq] at hx
    have hd0 := hx.1
    have b24 : Tryd.prog.bytesOf 23 = 24 := by kernel_rfl
    have b1 : Tryd.prog.bytesOf 5 = 1 := by kernel_rfl
    refine ⟨(List.range len).map fun r => ((Z r).take (Ln r)).map fun z => UInt8.ofNat z.toNat, by simp, hl, ?_, fun i hi => ?_, ?_⟩
    · by_cases h0 : len = 0
      · left; subst h0; rfl
      · obtain ⟨b, off, spot⟩ := a
        have hspot : spot = none := by simpa [Addr.add] using World.cell?_spot (hr 0 (by omega)).1
        subst hspot
        have hadd : ∀ (b off k : Nat), (⟨b, off, none⟩ : Addr).add k = ⟨b, off + k, none⟩ := fun b off k => by unfold Addr.add; split <;> simp_all
        refine .inr ⟨b, off, rfl, fun i hi => ?_⟩
        simp only [List.length_map, List.length_range] at hi
        obtain ⟨q1, q2, q3, q4, q5, q6, q7⟩ := hr i (by omega)
        rw [hadd] at q1
        have hlen : (((Z i).take (Ln i)).map fun z => UInt8.ofNat z.toNat).length = Ln i := by simp; omega
        simp only [List.getElem_map, List.getElem_range]
        refine ⟨A i, C i, by rw [hlen]; exact q1, ?_⟩
        by_cases hz : Ln i = 0
        · left; exact List.eq_nil_of_length_eq_zero (by rw [hlen]; exact hz)
        · cases hA : A i with
          | none => have := q6 hA; omega
          | some a' =>
            obtain ⟨_, q8⟩ := q7 a' hA
            obtain ⟨b', off', spot'⟩ := a'
            have hspot' : spot' = none := by simpa [Addr.add] using World.cell?_spot (q8 0 (by omega))
            subst hspot'
            refine .inr ⟨b', off', rfl, fun k hk => ?_⟩
            rw [hlen] at hk
            have hkz : k < (Z i).length := by omega
            have := q8 k (by omega)
            rw [hadd] at this
            rw [this]
            have hw := byte_wf (q5 (Z i)[k] (List.getElem_mem hkz))
            simp only [List.getD, List.getElem?_eq_getElem hkz, Option.getD_some, List.getElem_map, List.getElem_take, UInt8.toNat_ofNat']
            congr 2
            omega
    · simp only [List.length_map, List.length_range] at hi
      obtain ⟨q1, q2, q3, q4, q5, q6, q7⟩ := hr i (by omega)
      have hlen : (((Z i).take (Ln i)).map fun z => UInt8.ofNat z.toNat).length = Ln i := by simp; omega
      simp only [List.getElem_map, List.getElem_range]
      rw [hlen]
      cases hA : A i with
      | none => have := q6 hA; omega
      | some a' =>
        have hin : (Go.Deep.intRow (H := H) .u8 (A i) (Ln i) (Z i)).weights Tryd.prog 23 = [((lits (H := H) .u8 ((Z i).take (Ln i))).length + (lits (H := H) .u8 ((Z i).drop (Ln i))).length) * 1] ++ (DataW.weightsAll Tryd.prog 5 (lits (H := H) .u8 ((Z i).take (Ln i))) ++ DataW.weightsAll Tryd.prog 5 (lits (H := H) .u8 ((Z i).drop (Ln i)))) := by
          rw [hA]
          simp only [Go.Deep.intRow, DataW.weights, Tryd.underlying23, b1]
          rfl
        have hmem : ((lits (H := H) .u8 ((Z i).take (Ln i))).length + (lits (H := H) .u8 ((Z i).drop (Ln i))).length) * 1 ∈ DataW.weightsEach Tryd.prog ts ds := by
          refine weights_each_mem ht hd ?_
          rw [hd0]
          simp only [DataW.weights, Tryd.underlying22]
          refine List.mem_cons_of_mem _ (List.mem_append_left _ (weights_all_mem (List.mem_map.2 ⟨i, List.mem_range.2 hi, rfl⟩) ?_))
          rw [hin]
          exact List.mem_append_left _ (List.mem_singleton.2 rfl)
        have hle := hall _ hmem
        have hr1 : reachBytes = 140737488351232 := rfl
        simp only [lits, List.length_map, List.length_take, List.length_drop, decide_eq_true_eq, hr1] at hle
        omega
    · rw [hd0] at hd
      have := sized_slice hsz ht hd Tryd.underlying22
      rw [b24] at this
      have hr1 : reachBytes = 140737488351232 := rfl
      simp only [List.length_map, List.length_range] at this
      omega
end Go.Proofs.YtjnmgnnaefiegabDoor
