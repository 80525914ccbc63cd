/- Layer 18: own: a copy of a log. -/
import Derived.Test.YtaonchdpnllhpaaV8l
import Derived.Test.YtaonchdpnllhpaaMG
namespace Go.Proofs.Ytaonchdpnllhpaa
open Go.RowKit
set_option maxRecDepth 100000 in
set_option maxHeartbeats 1000000 in
theorem own_any18 (a : Option Addr) (n c : Nat) (L : List Ent) (w : World) (hn : L.length = n) (hnm : n ≤ 65536) (hN : EsAt w.cell? a L) (hs : ∀ x ∈ L, x.d.length ≤ 281474976710656) : Calls Try.prog 18 #[.slice a n c] w (fun e w' => ∃ v, e = .returned v ∧ w'.ownsRow w.heap.size 56 2 v n (cellsE L) ∧ Below w.heap.size w w') := by
  have HZ := hid hN
  have HD := hid hs
  have HN := hid hn
  have eC : ∀ args w, (callFunc 23 args).run Try.prog w = .ok (.enter 23 args) w := enters_of Try.func23 (by kernel_rfl) rfl
  clear hN hs hn
  go_enter Try.func18, Try.ntmps18
  go_wp2_with fail
  go_loopw [3, 8] (fun lv iv wr => ∃ (k : Nat) (a : Option Addr) (cp : Nat), lv = .slice a k cp ∧ iv = .int .i64 k ∧ k ≤ n ∧ Hid (wr.ownsRow w.heap.size 56 2 (.slice a k cp) k (cellsE (L.take k))) ∧ Hid (Below w.heap.size w wr)) (fun _ iv _ => n - (intOf iv).toNat)
  case atStart => exact ⟨0, none, 0, rfl, rfl, Nat.zero_le _, hid (World.ownsRow_nil _ _ _ _), hid (Below.refl _ w)⟩
  case round =>
    obtain ⟨k, ra, rc, rfl, rfl, hk, HS, HT⟩ := hrel
    by_cases hlt : k < n
    · have hkl : k < L.length := by rw [HN.out]; exact hlt
      obtain ⟨zb, zo, e1, z0, z1⟩ := (HZ.out.keep (below_keep18 HT.out)).get hkl
      subst e1
      have HC := hid fun W => sclone_any L[k].d W (HD.out _ (List.getElem_mem hkl))
      have HP : Hid (cellsE (L.take (k + 1)) = cellsE (L.take k) ++ [.int .i64 L[k].v, .string ⟨L[k].d.toArray⟩]) := hid (by rw [List.take_add_one, List.getElem?_eq_getElem hkl, cellsE_app]; rfl)
      obtain ⟨x, hx⟩ : ∃ x, x = L[k] := ⟨_, rfl⟩
      rw [← hx] at HC HP z0 z1
      clear hx
      obtain ⟨xv, xd⟩ := x
      simp only at z0 z1 HC HP
      have hz : w.heap.size ≤ wr.heap.size := HT.out.size
      obtain ⟨W5, hW5⟩ : ∃ W, W = wr.alloc (.cells #[.int .i64 xv, .string ⟨xd.toArray⟩] 56) := ⟨_, rfl⟩
      have hb5 : Below wr.heap.size wr W5 := by rw [hW5]; exact (Below.refl _ wr).alloc (Nat.le_refl _) _
      have b5 : W5.heap[wr.heap.size]? = some (.cells #[.int .i64 xv, .string ⟨xd.toArray⟩] 56 (0, 0)) := by rw [hW5]; exact heap_alloc_new wr _
      have HF : Hid (∀ W, Below W5.heap.size W5 W → (W.cell? ⟨wr.heap.size, 0, none⟩ = some (.int .i64 xv) ∧ W.cell? ⟨wr.heap.size, 1, none⟩ = some (.string ⟨xd.toArray⟩) ∧ wr.heap.size < W.heap.size) ∧ W.ownsRow w.heap.size 56 2 (.slice ra k rc) k (cellsE (L.take k)) ∧ Below w.heap.size w W) := hid fun W hW => by
        have hb := hb5.trans (hW.mono hb5.size)
        have hb' := (hW.block _ (lt_of_block b5)).trans b5
        exact ⟨⟨by rw [Lib.cell_of_heap hb']; rfl, by rw [Lib.cell_of_heap hb']; rfl, lt_of_block hb'⟩, row_below2 HS.out hb, HT.out.trans (hb.mono hz)⟩
      obtain ⟨⟨x0, x1, xl⟩, _⟩ := HF.out W5 (Below.refl _ _)
      obtain ⟨⟨u0, u1, ul⟩, _⟩ := HF.out W5.drew (Below.refl _ _).drew
      have h5z : w.heap.size ≤ W5.heap.size := Nat.le_trans hz hb5.size
      clear HS HT
      go_wp2_with fail
      rw [← hW5]
      clear hW5
      go_region_law (first
        | (refine step_call2 (by rfl) 23 #[.tmp 16] #[9] (by rfl) eC #[.string ⟨xd.toArray⟩] (by rfl) _ (HC.out _) ?_; rintro e w3 ⟨rfl, hb3⟩; refine ⟨_, rfl, ?_⟩; replace hb3 : Below W5.heap.size W5 w3 := (Below.refl _ W5).drew.trans hb3; have H3 := HF.out w3 hb3; obtain ⟨⟨p0, p1, pl⟩, HS3, HT3⟩ := H3)
        | (refine step_appN _ (by rfl) (.tmp 12) (.tmp 19) 27 (by rfl) elemN_ent w.heap.size (.slice ra k rc) k (cellsE (L.take k)) (by rfl) (World.ownsRow.alloc HS3 _) _ (by rfl) 1 [.int .i64 xv, .string ⟨xd.toArray⟩] (.inr ⟨⟨_, 0, none⟩, 1, rfl, cells_new4 _ [.int .i64 xv, .string ⟨xd.toArray⟩] 56 _ rfl⟩) rfl (by simp [Value.oneCell']) (by simp only [maxLen]; omega) (by omega) (by simp only [World.size_alloc]; have := hb3.size; omega) ?_; intro v' w6 hr6 hs6; obtain ⟨a6, c6, rfl, _, _, _⟩ := row_form hr6))
      all_goals
        go_wp2_with fail
        refine ⟨⟨k + 1, a6, c6, by go_num, by go_num, by omega, hid ?_, hid ?_⟩, by simp [intOf]; omega⟩
        · rw [HP.out]; exact hr6
        · refine HT3.trans ?_
          have := HT3.size
          exact ((Below.refl _ w3).alloc (Nat.le_refl _) _ |>.mono this).trans ((Chg.of_grown hs6.1).below (by simp only [World.size_alloc]; omega) fun i e => (World.ownsRow.lt HS3 i e).1)
    · go_wp2_with fail
      go_ret
      have e : k = n := by omega
      subst e
      rw [List.take_of_length_le (by rw [HN.out]; omega)] at HS
      exact ⟨_, rfl, HS.out, HT.out⟩
end Go.Proofs.Ytaonchdpnllhpaa
