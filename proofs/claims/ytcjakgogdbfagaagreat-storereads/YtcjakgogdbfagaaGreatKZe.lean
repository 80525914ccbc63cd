/- Layer 11: the document's Bytes of a store. -/
import Derived.Test.YtcjakgogdbfagaaGreatKZd
import Derived.Test.YtcjakgogdbfagaaGreatRW
import Derived.Deep.RegionHeld3
namespace Go.Proofs.YtcjakgogdbfagaaGreat
open Go.RowKit
theorem ints_one (n : Int) : ints [n] = be64 n := by simp [ints]
set_option maxRecDepth 100000 in
set_option maxHeartbeats 1000000 in
theorem rbytes_any (rb : Nat) (v : Value) (L : Kvs) (w : World) (h : RfAt rb v L w) (hL : L.length ≤ 512) (hsm : ∀ x ∈ L, x.1.length ≤ 32 ∧ x.2.length ≤ 256) :
    Calls Tryz.prog 10 #[.pointer (some ⟨rb, 0, none⟩)] w fun e w' => ∃ v', e = .returned v' ∧ OwnB w' w.heap.size v' (stB L) ∧ Below w.heap.size w w' := by
  obtain ⟨ca, cc, rfl, hcc, hcm⟩ := h.form
  have c0 := h.c
  have hN := refNumber_any (L.length : Int) w
  obtain ⟨n, hn⟩ : ∃ n, n = L.length := ⟨_, rfl⟩
  rw [← hn] at hN c0 hL
  have HN := hid hn
  go_enter Tryz.func10, Tryz.ntmps10
  have HH := hidb h
  have HM := hidb hsm
  clear h hcc hsm hn
  go_wp2_with (go_at_call 32; refine hN.mono ?_; clear hN; rintro e w1 ⟨v1, rfl, o1, b1⟩)
  go_loopw [3, 4] (fun v i wr => ∃ (k : Nat) (v' : Value), k ≤ n ∧ i = .int .i64 k ∧ v = v' ∧ Run w.heap.size w wr v' (be64 n ++ (L.take k).flatMap pairB)) (fun _ i _ => n - (intOf i).toNat)
  case atStart => exact ⟨0, _, Nat.zero_le _, rfl, rfl, ⟨by simpa using o1, b1, b1.size⟩⟩
  case round =>
    obtain ⟨k, v', hk, rfl, rfl, R⟩ := hrel
    clear o1 b1 c0
    by_cases hlt : k < n
    · have kl : k < L.length := by have := HN.out; omega
      obtain ⟨g, eg, hg, _, _⟩ := row_pairR HH.out.row kl
      subst eg
      have HS : Hid (be64 n ++ (L.take (k + 1)).flatMap pairB = be64 n ++ (L.take k).flatMap pairB ++ text L[k].1 ++ text L[k].2) := hid (by
        rw [List.take_succ_eq_append_getElem kl, List.flatMap_append]
        simp [pairB, texts, List.append_assoc])
      have hlen : (be64 n ++ (L.take k).flatMap pairB).length ≤ 200000 := by
        have := flatB_le (L := L.take k) fun x hx => HM.out x (List.mem_of_mem_take hx)
        have h2 : (be64 n).length = 8 := by simp [be64, be_length]
        rw [List.length_append, h2]
        rw [List.length_take] at this
        omega
      have hx := HM.out L[k] (by simp)
      have hSk : Hid (∀ W, Below w.heap.size w W → W.cell? ⟨rb, 0, none⟩ = some (.slice (some ⟨g, 0, none⟩) n cc) ∧ W.cell? ⟨g, k * 2, none⟩ = some (.string ⟨L[k].1.toArray⟩) ∧ W.cell? ⟨g, k * 2 + 1, none⟩ = some (.string ⟨L[k].2.toArray⟩)) := hidb fun W hW => by
        have h' := HH.out.below hW
        obtain ⟨g', e', _, x0, x1⟩ := row_pairR h'.row kl
        cases e'
        exact ⟨by rw [HN.out]; exact h'.c, x0, x1⟩
      have hT1 := rtextOne L[k].1
      have hT2 := rtextOne L[k].2
      generalize L[k].1 = xk at *
      generalize L[k].2 = xv at *
      have l1 : (text xk).length ≤ 300 := by rw [text_length]; omega
      have l2 : (text xv).length ≤ 300 := by rw [text_length]; omega
      replace hT1 := hidb fun W => hT1 W (by omega)
      replace hT2 := hidb fun W => hT2 W (by omega)
      generalize text xk = tk at *
      generalize text xv = tv at *
      generalize be64 n ++ (L.take k).flatMap pairB = ys at R HS hlen
      clear HH HM HN kl
      obtain ⟨c0, c1, c2⟩ := hSk.out _ R.below
      have hdr : Below wr.heap.size wr wr.drew := (Below.refl _ _).drew
      replace R := R.call hdr
      go_upto_region 5 with fail
      go_region_held3 (fun W => W.cell? ⟨rb, 0, none⟩ = some (.slice (some ⟨g, 0, none⟩) n cc) ∧ W.cell? ⟨g, k * 2, none⟩ = some (.string ⟨xk.toArray⟩) ∧ W.cell? ⟨g, k * 2 + 1, none⟩ = some (.string ⟨xv.toArray⟩)) (first | exact hSk.out _ R.below | go_keep) (first
        | (go_at_call 33; first
          | (refine (hT1.out _).mono ?_; clear hT1; rintro e wn ⟨r, rfl, hO, hb⟩; obtain ⟨g0, j0, rfl, S0⟩ := Side.new R hO; replace R := R.call hb; (first | (replace S1 := S1.call hb) | skip))
          | (refine (hT2.out _).mono ?_; clear hT2; rintro e wn ⟨r, rfl, hO, hb⟩; obtain ⟨g1, j1, rfl, S1⟩ := Side.new R hO; replace R := R.call hb; (first | (replace S0 := S0.call hb) | skip)))
        | (refine step_app _ rfl _ _ _ _ rfl elem_u8 w.heap.size _ _ rfl R.row _ rfl (tk.map bv) (S0.src _) (by simp only [List.length_map]; unfold maxLen; omega) (by simp only [List.length_map]; omega) R.size ?_; intro vn wn ho hs; replace R := R.app ho hs; clear S0; (first | (replace S1 := S1.app hs) | skip))
        | (refine step_app _ rfl _ _ _ _ rfl elem_u8 w.heap.size _ _ rfl R.row _ rfl (tv.map bv) (S1.src _) (by simp only [List.length_map, List.length_append]; unfold maxLen; omega) (by simp only [List.length_map, List.length_append]; omega) R.size ?_; intro vn wn ho hs; replace R := R.app ho hs; clear S1))
      all_goals
        go_wp2_with fail
        exact ⟨⟨k + 1, _, by omega, by go_num, rfl, by rw [HS.out]; exact R⟩, by simp [intOf]; omega⟩
    · have htk : L.take k = L := List.take_of_length_le (by have := HN.out; omega)
      rw [htk] at R
      have HE : Hid (stB L = be64 n ++ L.flatMap pairB) := hid (by rw [stB, ints_one, ← HN.out])
      have c0 : wr.cell? ⟨rb, 0, none⟩ = some (.slice ca n cc) := by rw [HN.out]; exact (HH.out.below R.below).c
      have HR := hidb R
      clear HH HM R htk
      go_wp2
      go_ret
      exact ⟨_, rfl, by rw [HE.out]; exact HR.out.row, HR.out.below⟩
end Go.Proofs.YtcjakgogdbfagaaGreat
