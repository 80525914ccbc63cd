/- Plain facts: append onto a slice that begins within an owned row. -/
import Derived.Test.YtmaecpmdikdclaaWA
namespace Go.Proofs.Ytmaecpmdikdclaa
open Go.RowKit

/-- The slice v lies in a row of the call's own, from some place on: its cells are xs. -/
def OwnO (w : World) (base : Nat) (e : TypeId) (v : Value) (xs : List Value) : Prop :=
  ∃ g off cap cur, v = .slice (some ⟨g, off, none⟩) xs.length cap ∧ base ≤ g ∧ w.heap[g]? = some (.cells cur e (0, 0)) ∧ xs.length ≤ cap ∧ cap ≤ maxLen ∧ off + cap ≤ cur.size ∧ (cur.toList.drop off).take xs.length = xs
theorem OwnO.alloc {w : World} {base : Nat} {e : TypeId} {v : Value} {xs : List Value} (h : OwnO w base e v xs) (o : Obj) : OwnO (w.alloc o) base e v xs := by
  obtain ⟨g, off, cap, cur, hv, hb, hg, r⟩ := h
  exact ⟨g, off, cap, cur, hv, hb, by rw [Below.heap_alloc _ _ _ (lt_of_block hg)]; exact hg, r⟩
theorem OwnO.lt {w : World} {base : Nat} {e : TypeId} {v : Value} {xs : List Value} (h : OwnO w base e v xs) : ∀ k, v.ownBlock = some k → base ≤ k ∧ k < w.heap.size := by
  obtain ⟨g, off, cap, cur, rfl, hb, hg, _⟩ := h
  intro k hk
  cases hk
  exact ⟨hb, lt_of_block hg⟩
theorem OwnO.below {w w' : World} {base : Nat} {e : TypeId} {v : Value} {xs : List Value} (h : OwnO w base e v xs) (hb : Below w.heap.size w w') : OwnO w' base e v xs := by
  obtain ⟨g, off, cap, cur, hv, hb', hg, r⟩ := h
  exact ⟨g, off, cap, cur, hv, hb', by rw [hb.block g (lt_of_block hg)]; exact hg, r⟩
theorem OwnO.kept {w w' : World} {base : Nat} {e : TypeId} {v : Value} {xs : List Value} {row : Option Nat} (h : OwnO w base e v xs) (hg : w.grownBy w' row) (hne : v.ownBlock ≠ row) : OwnO w' base e v xs := by
  obtain ⟨g, off, cap, cur, rfl, hb', hg', r⟩ := h
  exact ⟨g, off, cap, cur, rfl, hb', by rw [hg.block g (lt_of_block hg') (fun e => hne e)]; exact hg', r⟩
theorem OwnO.bs {w : World} {base : Nat} {e : TypeId} {v : Value} {bs : List UInt8} (h : OwnO w base e v (bs.map bv)) : ∃ ao cap, v = .slice ao bs.length cap ∧ bs.length ≤ cap ∧ cap ≤ maxLen ∧ Bs w ao bs := by
  obtain ⟨g, off, cap, cur, hv, hb, hg, hle, hmx, hsz, htk⟩ := h
  rw [List.length_map] at hv hle htk
  refine ⟨_, cap, hv, hle, hmx, .inr ⟨g, off, rfl, fun j hj => ?_⟩⟩
  rw [cell_of_row w g (off + j) cur e (0, 0) hg]
  have : ((cur.toList.drop off).take bs.length)[j]? = some (bv bs[j]) := by rw [htk]; simp [List.getElem?_eq_getElem hj]
  rw [List.getElem?_take, if_pos hj, List.getElem?_drop] at this
  simpa using this
/-- A cut of an owned slice. -/
theorem OwnO.cut {w : World} {base : Nat} {e : TypeId} {ao : Option Addr} {n cap : Nat} {xs : List Value} (h : Own w base e (.slice ao n cap) xs) (k : Nat) (hk : k < xs.length) :
    n = xs.length ∧ ∃ g, ao = some ⟨g, 0, none⟩ ∧ k < cap ∧ OwnO w base e (.slice (some ⟨g, k, none⟩) (n - k) (cap - k)) (xs.drop k) := by
  rcases h.2 with ⟨h2, h0⟩ | ⟨g, cap', cur, hv, hb, hg, hle, hmx, hsz, htk⟩
  · omega
  · cases hv
    refine ⟨rfl, g, rfl, by omega, g, k, cap - k, cur, by rw [List.length_drop], hb, hg, by rw [List.length_drop]; omega, by omega, by omega, ?_⟩
    rw [List.length_drop, ← List.drop_take]
    simp only [Nat.mul_one] at htk
    rw [htk]
theorem OwnO.of_own {w : World} {base : Nat} {e : TypeId} {v : Value} {xs : List Value} (h : Own w base e v xs) (hv : v ≠ .slice none 0 0) : OwnO w base e v xs := by
  rcases h.2 with ⟨h2, _⟩ | ⟨g, cap', cur, rfl, hb, hg, hle, hmx, hsz, htk⟩
  · exact absurd h2 hv
  · exact ⟨g, 0, cap', cur, rfl, hb, hg, hle, hmx, by omega, by simpa using htk⟩

section
variable {P : Program} (w : World)
theorem run_appO {t tx ty e : TypeId} {bytes : Nat} (E : Elem P t e bytes) (base : Nat) (v : Value) (xs : List Value) (hown : OwnO w base e v xs) (x : Value) (news : List Value) (hs : Src P 1 tx x news.length news w)
    (h63 : xs.length + news.length ≤ maxLen) (hbytes : (xs.length + news.length) * bytes ≤ 140737488355328) (hbase : base ≤ w.heap.size) :
    ∃ v' w', (Builtin.append_ #[t, tx] ty #[v, x]).run P w = .ok v' w' ∧ OwnO w' base e v' (xs ++ news) ∧ Step w v w' v' := by
  obtain ⟨ht, i, z, hi, hz, hsize, rfl, hzs⟩ := E
  have hs' : Src P i.size tx x news.length news w := by rw [hsize]; exact hs
  have hsmall : xs.length + news.length ≤ 9223372036854775807 := by simp only [maxLen] at h63; omega
  obtain ⟨g, off, cap, cur, rfl, hbg, hg, hnc, hcm, hcs, htake⟩ := hown
  by_cases hroom : xs.length + news.length ≤ cap
  · have hst := run_storeCells_at P g (off + xs.length) e news 0 cur w hg (by omega) hs.one
    simp only [Nat.add_zero] at hst
    refine ⟨.slice (some ⟨g, off, none⟩) (xs.length + news.length) cap, w.setRow g (cur.toList.take (off + xs.length) ++ news ++ cur.toList.drop (off + xs.length + news.length)).toArray, ?_,
      ⟨g, off, cap, _, by rw [List.length_append], hbg, setRow_heap w g cur _ e _ hg, by rw [List.length_append]; exact hroom, hcm, ?_, ?_⟩,
      ⟨⟨rfl, rfl, rfl, by simp, fun k _ hk => setRow_other w g k _ (fun e => hk (by simp [Value.ownBlock, e]))⟩, .inl rfl⟩⟩
    · rcases hs'.kind with ⟨e', hk⟩ | hk <;> simp [Builtin.append_, run_underlying ht, run_underlying hk, sizeOf, typeInfo, hi, hsize, hs'.len, hroom, (hsize ▸ hs'.cells), Addr.add_lit, hst]
    · simp only [List.size_toArray, List.length_append, List.length_take, List.length_drop, Array.length_toList]
      omega
    · have hcl : cur.toList.length = cur.size := Array.length_toList
      have e1 : (cur.toList.take (off + xs.length)).drop off = xs := by
        rw [List.drop_take, Nat.add_sub_cancel_left]; exact htake
      rw [List.append_assoc, List.drop_append_of_le_length (by rw [List.length_take]; omega), e1, ← List.append_assoc]
      exact List.take_left
  · have holds : ∀ j u, xs[j]? = some u → w.drew.cell? ((⟨g, off, none⟩ : Addr).add j) = some u := by
      intro j u hu
      have hadd : (⟨g, off, none⟩ : Addr).add j = ⟨g, off + j, none⟩ := by unfold Addr.add; split <;> simp_all
      obtain ⟨hj, _⟩ := List.getElem?_eq_some_iff.1 hu
      have k : w.cell? ⟨g, off + j, none⟩ = some u := by
        rw [cell_of_row w g (off + j) cur e (0, 0) hg]
        rw [← htake, List.getElem?_take, if_pos hj, List.getElem?_drop] at hu
        simpa using hu
      rw [hadd]; simpa using k
    have hr := run_append_grow_src (P := P) w t tx ty e i z ht hi hz (some ⟨g, off, none⟩) xs.length cap xs (run_firstCells_some w.drew i.size xs.length ⟨g, off, none⟩ xs.length cap xs (by rw [hsize, Nat.mul_one]) holds) x news.length news hs' (by omega) (by omega) (growslice_fits (by omega) hbytes)
    have hge := grownCap_ge w (xs.length + news.length) cap e
    have hcm : grownCap w (xs.length + news.length) cap e ≤ maxLen := grownCap_le_maxLen w (xs.length + news.length) cap e h63
    refine ⟨_, _, hr, ⟨w.heap.size, 0, _, _, by rw [List.length_append], hbase, heap_alloc_new w.drew _, by rw [List.length_append]; exact hge, hcm, ?_, ?_⟩, ⟨⟨rfl, rfl, rfl, by simp, fun k hk _ => Below.heap_alloc w.drew _ k hk⟩, .inr ⟨w.heap.size, rfl, Nat.le_refl _⟩⟩⟩
    · simp only [Array.size_append, List.size_toArray, List.length_append, size_zeroCells, hzs]
      omega
    · simp only [Array.toList_append, List.drop_zero]
      exact List.take_left
theorem wpList_appO {ops : Array Oper} {rest : List Oper} {o : Oper} {a : Act} {Q : Exit → Act → World → Prop} (hgd : o.guard = none) (s x : Operand) (t tx : TypeId) (ho : o.op = .call { callee := .builtin .append, args := #[s, x], argTypes := #[t, tx] })
    {e : TypeId} {bytes : Nat} (E : Elem P t e bytes) (base : Nat) (v : Value) (xs : List Value) (hv : a.eval s = v) (hown : OwnO w base e v xs) (y : Value) (hy : a.eval x = y) (news : List Value) (hs : Src P 1 tx y news.length news w)
    (h63 : xs.length + news.length ≤ maxLen) (hbytes : (xs.length + news.length) * bytes ≤ 140737488355328) (hbase : base ≤ w.heap.size)
    (h : ∀ v' w', OwnO w' base e v' (xs ++ news) → Step w v w' v' → wpList P ops Q rest (a.put o.dst v') w') : wpList P ops Q (o :: rest) a w := by
  refine wpList_plain hgd fun K hK => ?_
  obtain ⟨v', w', hr, h2, h3⟩ := run_appO (P := P) w (ty := o.type) E base v xs hown y news hs h63 hbytes hbase
  unfold Oper.wp execOp
  simp only [ho, resolve, invoke, builtin, Sem.run_bind, Sem.run_pure, Result.andThen_ok, List.map_toArray, List.map_cons, List.map_nil, hv, hy, hr]
  exact hK _ _ (h v' w' h2 h3)
end
end Go.Proofs.Ytmaecpmdikdclaa
