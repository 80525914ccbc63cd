/- Layer 11: a transaction's growth. Layer 11: a transaction's Changes: the walk. -/
import Derived.Test.YticihfbhnbkjjabKA
import Derived.Deep.QuietTactic
import Derived.BigQuiet
import Derived.Test.YticihfbhnbkjjabQV
namespace Go.Proofs.Yticihfbhnbkjjab
open Go.RowKit
theorem cellsP_consK (x : Bt × Bt) (L : Kvs) : cellsP (x :: L) = sv x.1 :: sv x.2 :: cellsP L := rfl
theorem cellsP_at : ∀ (C : Kvs) (k : Nat) (h : k < C.length), (cellsP C)[k * 2]? = some (sv C[k].1) ∧ (cellsP C)[k * 2 + 1]? = some (sv C[k].2)
  | [], k, h => by simp at h
  | x :: C, 0, _ => by simp [cellsP_consK]
  | x :: C, k + 1, h => by
    have ih := cellsP_at C k (by simp at h; omega)
    rw [cellsP_consK, show (k + 1) * 2 = k * 2 + 1 + 1 by omega]
    simpa using ih
theorem row_pair {w : World} {B n : Nat} {va : Option Addr} {vc : Nat} {C : Kvs} (h : w.ownsRow B 41 2 (.slice va n vc) C.length (cellsP C)) {k : Nat} (hk : k < C.length) : ∃ g, va = some ⟨g, 0, none⟩ ∧ g < w.heap.size ∧ w.cell? ⟨g, k * 2, none⟩ = some (sv C[k].1) ∧ w.cell? ⟨g, k * 2 + 1, none⟩ = some (sv C[k].2) := by
  rcases h.2 with ⟨_, e⟩ | ⟨g, cap, cur, e, hb, hc, hn, hm, hs, ht⟩
  · omega
  · injection e with e1
    refine ⟨g, e1, heap_ltb hc, ?_, ?_⟩
    · have := (cellsP_at C k hk).1
      rw [← ht, List.getElem?_take_of_lt (by omega), Array.getElem?_toList] at this
      rw [Lib.cell_of_heap hc]
      exact this
    · have := (cellsP_at C k hk).2
      rw [← ht, List.getElem?_take_of_lt (by omega), Array.getElem?_toList] at this
      rw [Lib.cell_of_heap hc]
      exact this
theorem take_snocK {C : Kvs} {k : Nat} (h : k < C.length) : C.take (k + 1) = C.take k ++ [C[k]] := by
  rw [List.take_add_one, List.getElem?_eq_getElem h]
  rfl
set_option maxRecDepth 100000 in
set_option maxHeartbeats 1000000 in
theorem growth_any (b : TxB) (L S D : Kvs) (more : Int) (w : World) (h : TxAt b L S D more w) (B vc : Nat) (va : Option Addr) (C : Kvs) (hrow : w.ownsRow B 41 2 (.slice va C.length vc) C.length (cellsP C)) (hC : C.length ≤ 1000000000000000) :
    Calls Try.prog 38 #[.pointer (some ⟨b.xb, 0, none⟩), .slice va C.length vc] w fun e w' => e = .returned (.int .i64 (grN L D C)) ∧ Below w.heap.size w w' := by
  have HT := hidb h
  have HR := hidb hrow
  have HC : Hid (∃ n, n = C.length) := hidb ⟨_, rfl⟩
  clear h hrow
  obtain ⟨n, hn⟩ := HC.out
  have Hn := hidb hn
  rw [← hn] at HR hC ⊢
  clear hn HC
  go_enter Try.func38, Try.ntmps38
  go_wp2_with fail
  go_loopw [5, 10] (fun nv iv wr => ∃ k : Nat, iv = .int .i64 k ∧ k ≤ n ∧ nv = .int .i64 (grN L D (C.take k)) ∧ Below w.heap.size w wr) (fun _ iv _ => n - (intOf iv).toNat)
  case atStart => exact ⟨0, rfl, Nat.zero_le _, rfl, Below.refl _ _⟩
  case round =>
    obtain ⟨k, rfl, hk, rfl, hb⟩ := hrel
    by_cases hlt : k < n
    · have hkl : k < C.length := by rw [← Hn.out]; exact hlt
      have hr := HR.out
      rw [Hn.out] at hr
      obtain ⟨g, eg, hg, c0, c1⟩ := row_pair hr hkl
      have e0 : wr.cell? ⟨g, k * 2, none⟩ = some (sv C[k].1) := (hb.cell (p := ⟨g, k * 2, none⟩) hg).trans c0
      have e1 : wr.cell? ⟨g, k * 2 + 1, none⟩ = some (sv C[k].2) := (hb.cell (p := ⟨g, k * 2 + 1, none⟩) hg).trans c1
      rw [eg]
      clear eg c0 c1 hr
      have hT := HT.out.below hb
      have hbd := grN_bd L D (C.take k)
      rw [List.length_take_of_le (by omega)] at hbd
      have HS := hidb (grN_app L D (C.take k) C[k])
      rw [← take_snocK hkl] at HS
      generalize C[k] = x at e0 e1 HS
      obtain ⟨xa, xb⟩ := x
      simp only at e0 e1 HS
      generalize grN L D (C.take k) = gn at *
      have hb2 : Below w.heap.size w (wr.alloc (.cells #[sv xa, sv xb] 41)) := hb.alloc hb.size _
      have hTW := hT.below ((Below.refl wr.heap.size wr).alloc (Nat.le_refl _) (.cells #[sv xa, sv xb] 41))
      have hbx := Lib.cell_of_heap (heap_alloc_new wr (.cells #[sv xa, sv xb] 41)) 0
      go_wp2_with fail
      obtain ⟨W, hW⟩ : ∃ W, W = wr.alloc (.cells #[sv xa, sv xb] 41) := ⟨_, rfl⟩
      rw [← hW] at hbx hTW hb2 ⊢
      clear hW hT e0 e1
      have x0 := hTW.x0
      have x1 := hTW.x1
      have y1 := hTW.y1
      simp at hbx
      have HD := hidb fun M => has_t b.wb b.wg D (W.drewN M) xa (hTW.d.drewN M)
      have HL := hidb fun M => has_t b.tb b.g L (W.drewN M) xa (hTW.t.drewN M)
      have HT2 := hidb hTW.t
      have HB : Hid (∀ M, Below w.heap.size w (W.drewN M)) := hidb fun M => below_drewN hb2 M
      clear hTW hb2
      unfold gr1 at HS
      simp only at HS
      cases hd : getL D xa with
      | some u =>
        simp only [hd, Option.isSome_some, if_true] at HS HD
        go_quiet ((go_at_call 35; exact Calls.quiet_of (HD.out _)))
        go_wp2_with fail
        exact ⟨⟨k + 1, by go_num, by omega, by rw [HS.out]; go_num, HB.out _⟩, by simp [intOf]; omega⟩
      | none =>
        simp only [hd, Option.isSome_none, Bool.false_eq_true, if_false] at HS HD
        go_quiet ((go_at_call 35; exact Calls.quiet_of (HD.out _)))
        clear HD
        go_wp2_with fail
        obtain ⟨W2, hW2⟩ : ∃ W2, W2 = W.drewN nq := ⟨_, rfl⟩
        have z0 : W2.cell? ⟨b.xb, 0, none⟩ = some (.pointer (some ⟨b.tb, 0, none⟩)) := by rw [hW2]; exact x0
        have zb : W2.cell? ⟨wr.heap.size, 0, none⟩ = some (sv xa) := by rw [hW2]; exact hbx
        have HL2 := hidb fun M => has_t b.tb b.g L (W2.drewN M) xa (by rw [hW2]; exact (HT2.out.drewN nq).drewN M)
        have HB2 : Hid (∀ M, Below w.heap.size w (W2.drewN M)) := hidb fun M => by rw [hW2]; exact below_drewN (HB.out nq) M
        rw [← hW2]
        clear hW2 HL HB x0 x1 y1 hbx
        cases hl : getL L xa with
        | some u =>
          simp only [hl, Option.isSome_some, if_true] at HS HL2
          go_quiet ((go_at_call 35; exact Calls.quiet_of (HL2.out _)))
          go_wp2_with fail
          exact ⟨⟨k + 1, by go_num, by omega, by rw [HS.out]; simp, HB2.out _⟩, by simp [intOf]; omega⟩
        | none =>
          simp only [hl, Option.isSome_none, Bool.false_eq_true, if_false] at HS HL2
          go_quiet ((go_at_call 35; exact Calls.quiet_of (HL2.out _)))
          go_wp2_with fail
          exact ⟨⟨k + 1, by go_num, by omega, by rw [HS.out], HB2.out _⟩, by simp [intOf]; omega⟩
    · have htk : C.take k = C := List.take_of_length_le (by rw [← Hn.out]; omega)
      rw [htk]
      go_wp2_with fail
      go_ret
      exact ⟨rfl, hb⟩
end Go.Proofs.Yticihfbhnbkjjab
namespace Go.Proofs.Yticihfbhnbkjjab
open Go.RowKit Go.Shelf
attribute [local go_sem] Oper.semAt_some
theorem ChI.start {b : TxB} {L S D : Kvs} {more : Int} {w : World} (h : TxAt b L S D more w) : ChI b L S D more w.heap.size w [] ((w.alloc (.cells #[.pointer (some ⟨b.xb, 0, none⟩)] 27)).alloc (.cells #[.slice none 0 0] 37)) := by
  have hb : Below w.heap.size w ((w.alloc (.cells #[.pointer (some ⟨b.xb, 0, none⟩)] 27)).alloc (.cells #[.slice none 0 0] 37)) := ((Below.refl _ w).alloc (Nat.le_refl _) _).alloc (by simp) _
  refine ⟨h.below hb, h.lts, ?_, ⟨.slice none 0 0, ?_, World.ownsRow_nil _ _ _ _⟩, hb, by simp⟩
  · rw [Below.heap_alloc _ _ _ (by simp), heap_alloc_new]
  · have := heap_alloc_new (w.alloc (.cells #[.pointer (some ⟨b.xb, 0, none⟩)] 27)) (.cells #[.slice none 0 0] 37)
    rwa [World.size_alloc] at this
theorem ChI.below {b : TxB} {L S D : Kvs} {more : Int} {Z : Nat} {w W W' : World} {acc : Kvs} (h : ChI b L S D more Z w acc W) (k : Below W.heap.size W W') : ChI b L S D more Z w acc W' := by
  obtain ⟨v, v1, v2⟩ := h.bl
  have hs := h.siz
  exact ⟨h.tx.below k, h.lt, (k.block _ (by omega)).trans h.bt, ⟨v, (k.block _ (by omega)).trans v1, row_below2 v2 k⟩, h.bel.trans (k.mono (by omega)), Nat.le_trans hs k.size⟩
theorem ChI.facts {b : TxB} {L S D : Kvs} {more : Int} {Z : Nat} {w W : World} {acc : Kvs} (h : ChI b L S D more Z w acc W) : W.cell? ⟨Z, 0, none⟩ = some (.pointer (some ⟨b.xb, 0, none⟩)) ∧ W.cell? ⟨b.xb, 0, none⟩ = some (.pointer (some ⟨b.tb, 0, none⟩)) ∧ W.cell? ⟨b.xb, 1, none⟩ = some (.pointer (some ⟨b.cb, 0, none⟩)) ∧ W.cell? ⟨b.cb, 0, none⟩ = some (.pointer (some ⟨b.sb, 0, none⟩)) ∧ W.cell? ⟨b.cb, 1, none⟩ = some (.pointer (some ⟨b.wb, 0, none⟩)) :=
  ⟨Lib.cell_of_heap h.bt 0, h.tx.x0, h.tx.x1, h.tx.y0, h.tx.y1⟩
theorem fromL_nil (L : Kvs) : fromL L [] = L := List.filter_eq_self.2 fun x _ => by
  have : ¬ klt x.1 [] := by unfold klt; cases x.1 <;> simp [Op.bytesLess]
  simpa using this
theorem chgA_snoc (L pre : Kvs) (x : Bt × Bt) : chgA L (pre ++ [x]) = chgA L pre ++ (if getL L x.1 ≠ some x.2 then [x] else []) := by
  unfold chgA
  rw [List.filter_append]
  congr 1
  by_cases h : getL L x.1 = some x.2 <;> simp [h]
end Go.Proofs.Yticihfbhnbkjjab
