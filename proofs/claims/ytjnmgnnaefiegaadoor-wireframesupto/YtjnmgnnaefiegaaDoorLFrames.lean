/- The law WireFrames, walked. -/
import Derived.Test.YtjnmgnnaefiegaaDoorRP
import Derived.Test.YtjnmgnnaefiegaaDoorB8
import Derived.Test.YtjnmgnnaefiegaaDoorLSums
namespace Go.Proofs.YtjnmgnnaefiegaaDoor
open Go.RowKit

theorem RowsV.chg {w w' : World} {base : Nat} {v : Value} {vs : List Value} {L : List (List UInt8)} {S : Nat → Prop} (h : RowsV w base v vs L) (k : Chg w w' S) (hS : ∀ b, base ≤ b → ¬ S b) : RowsV w' base v vs L :=
  ⟨h.len, Own.chg h.row k (fun g hg => hS g (h.row.lt g hg).1), fun i h1 h2 => Own.chg (h.each i h1 h2) k (fun g hg => hS g ((h.each i h1 h2).lt g hg).1)⟩
theorem RowsV.at {w : World} {base : Nat} {v : Value} {vs : List Value} {L : List (List UInt8)} (h : RowsV w base v vs L) : ∃ ao cap, v = .slice ao L.length cap ∧ (∀ k, k < L.length → ∃ g, ao = some ⟨g, 0, none⟩ ∧ base ≤ g) := by
  obtain ⟨ao, cap, hv, h1, h2, h3, h4, h5⟩ := Own.form h.row
  have hlt := h.row.lt
  rw [h.len] at hv h1
  refine ⟨ao, cap, hv, fun k hk => ?_⟩
  cases ao with
  | none => have := h4 rfl; omega
  | some a =>
    obtain ⟨g, rfl, hc⟩ := h5 a rfl
    exact ⟨g, rfl, (hlt g (by rw [h3]; rfl)).1⟩
/-- A header of such a row, and its bytes. -/
theorem RowsV.get {w : World} {base g cap n : Nat} {vs : List Value} {L : List (List UInt8)} (h : RowsV w base (.slice (some ⟨g, 0, none⟩) n cap) vs L) (k : Nat) (hk : k < L.length) : ∃ ak ck, w.cell? ⟨g, k, none⟩ = some (.slice ak L[k].length ck) ∧ Bs w ak L[k] := by
  obtain ⟨ao, cap', hv, h1, h2, h3, h4, h5⟩ := Own.form h.row
  have hkv : k < vs.length := by rw [h.len]; exact hk
  simp only [Value.slice.injEq] at hv
  obtain ⟨hao, _, _⟩ := hv
  subst hao
  obtain ⟨g', hg, hc⟩ := h5 _ rfl
  cases hg
  obtain ⟨ak, ck, hvk, _, _, hB, _, _⟩ := Own.bs (h.each k hk hkv)
  exact ⟨ak, ck, by rw [← hvk]; exact hc k _ (List.getElem?_eq_getElem hkv), hB⟩
theorem Rows2.form {w : World} {base : Nat} {v : Value} {gs : List Nat} {L : List (List UInt8)} (h : Rows2 w base v gs L) : ∃ ao cap, v = .slice ao L.length cap ∧ L.length ≤ 9223372036854775807 ∧ (∀ k, k < L.length → ∃ g, ao = some ⟨g, 0, none⟩) := by
  obtain ⟨ao, cap, hv, h1, h2, h3, h4, h5⟩ := Own.form h.row
  have hz : (List.zipWith (fun g (b : List UInt8) => sl g b.length) gs L).length = L.length := by simp [h.len]
  rw [hz] at hv h1
  refine ⟨ao, cap, hv, by unfold maxLen at h2; omega, fun k hk => ?_⟩
  cases ao with
  | none => have := h4 rfl; omega
  | some a =>
    obtain ⟨g, rfl, hc⟩ := h5 a rfl
    exact ⟨g, rfl⟩
/-- Behind changes in the first k slices of a row: the headers are as they were, and so are the other slices. -/
theorem Rows2.chg {w w' : World} {base g cap n : Nat} {gs : List Nat} {L : List (List UInt8)} (h : Rows2 w base (.slice (some ⟨g, 0, none⟩) n cap) gs L) (m : Nat) (k : Chg w w' (fun b => b ∈ gs.take m)) (j : Nat) (hj : j < L.length) (hjg : j < gs.length) :
    w'.cell? ⟨g, j, none⟩ = some (.slice (some ⟨gs[j], 0, none⟩) L[j].length L[j].length) ∧ (m ≤ j → OwnB w' base (sl gs[j] L[j].length) L[j]) := by
  obtain ⟨ao, cap', hv, h1, h2, h3, h4, h5⟩ := Own.form h.row
  simp only [Value.slice.injEq] at hv
  obtain ⟨hao, _, _⟩ := hv
  subst hao
  obtain ⟨g', hg, hc⟩ := h5 _ rfl
  cases hg
  have hz : (List.zipWith (fun g (b : List UInt8) => sl g b.length) gs L).length = L.length := by simp [h.len]
  have hcj := hc j (sl gs[j] L[j].length) (by rw [List.getElem?_eq_getElem (by rw [hz]; exact hj), List.getElem_zipWith])
  refine ⟨k.cell hcj (fun e => ?_), fun hm => Own.chg (h.each j hj hjg) k (fun b hb e => ?_)⟩
  · obtain ⟨i, hi, hgi⟩ := List.getElem_of_mem (List.mem_of_mem_take e)
    have := apart (by decide) (h.each i (by rw [← h.len]; exact hi) hi) h.row
    rcases this with h' | h'
    · cases h'
    · apply h'
      simp only [sl, Value.ownBlock, hgi]
  · cases hb
    obtain ⟨i, hi, hgi⟩ := List.getElem_of_mem e
    rw [List.getElem_take] at hgi
    have hi' : i < m := by simp at hi; omega
    exact List.pairwise_iff_getElem.1 h.nodup i j (by simp at hi; omega) hjg (by omega) hgi
theorem Rows2.ge {w : World} {base : Nat} {v : Value} {gs : List Nat} {L : List (List UInt8)} (h : Rows2 w base v gs L) : ∀ x ∈ gs, base ≤ x := by
  intro x hx
  obtain ⟨i, hi, rfl⟩ := List.getElem_of_mem hx
  exact ((h.each i (by rw [← h.len]; exact hi) hi).lt _ rfl).1

theorem framesOf_le (N : Nat) : ∀ bs : List UInt8, bs.length ≤ N → ∀ x ∈ (framesOf bs).1, x.length ≤ N := by
  induction N using Nat.strongRecOn with
  | _ N ih =>
    intro bs hbs x hx
    cases hf : firstOf bs with
    | none => rw [framesOf_none hf] at hx; cases hx
    | some inn =>
      have hl := firstOf_len hf
      rw [framesOf_some hf] at hx
      rcases List.mem_cons.1 hx with rfl | hx
      · omega
      · have := ih (N - 8) (by omega) (bs.drop (8 + inn.length)) (by rw [List.length_drop]; omega) x hx
        omega
theorem framesOf_lens (bs : List UInt8) (k : Nat) (h : k < (framesOf bs).1.length) : ((framesOf bs).1[k]).length ≤ bs.length :=
  framesOf_le bs.length bs (Nat.le_refl _) _ (List.getElem_mem h)

set_option maxHeartbeats 4000000 in
theorem wireFrames_walk (ao : Option Addr) (len cap : Nat) (bs : List UInt8) (w : World) (hl : bs.length = len) (hm : len ≤ 1048576) (hcap : len ≤ cap) (hcm : cap ≤ maxLen) (hb : Bs w ao bs) (ht : Tab w) :
    Calls Tryd.prog 6 #[.slice ao len cap] w fun e w' => e = .returned (.bool true) ∧ Below w.heap.size w w' := by
  go_enter Tryd.func6, Tryd.ntmps6
  go_wp2_with fail
  refine (lent_any ao len cap bs w hl (by omega) hb).mono ?_
  rintro e w1 ⟨g, c, rfl, hO1, hb1⟩
  obtain ⟨hL1, hlc, hcm1⟩ := lent_bs hl hO1
  have hgb : w.heap.size ≤ g ∧ g < w1.heap.size := hO1.lt g rfl
  go_wp2_with fail
  refine (frames_any (some ⟨g, 0, none⟩) len c bs w1 hl (by omega) hlc hcm1 hL1 (ht.keep (below_keep hb1))).mono ?_
  rintro e w2 ⟨v2, gs, rfl, hR2, hb2'⟩
  have hb2 : Below w.heap.size w w2 := hb1.trans (hb2'.mono hb1.size)
  have hO2 := Own.below hO1 hb2'
  have hlt2 := hR2.lt
  have hge2 := hR2.ge
  clear hO1 hL1
  go_wp2_with fail
  refine (refFrames_any ao len cap bs w2 hl (by omega) hcap hcm (hb.keep (below_keep hb2))).mono ?_
  rintro e w3 ⟨v3, vs, rfl, hR3, hb3'⟩
  have hb3 : Below w.heap.size w w3 := hb2.trans (hb3'.mono hb2.size)
  have hO3 := Own.below hO2 hb3'
  have hR2' := hR2.below hb3'
  have hz1 := hb1.size
  have hz2 := hb2'.size
  have HLn : ∀ k (h : k < (framesOf bs).1.length), ((framesOf bs).1[k]).length ≤ bs.length := framesOf_lens bs
  generalize hLL : (framesOf bs).1 = L at *
  generalize (framesOf bs).2 = E at *
  obtain ⟨a2, c2, hv2, hnm, hf2⟩ := hR2'.form
  obtain ⟨a3, c3, hv3, hf3⟩ := hR3.at
  subst hv2
  subst hv3
  have hlen := hR2'.len
  obtain ⟨n, hn⟩ : ∃ n, n = L.length := ⟨_, rfl⟩
  rw [← hn] at hf2 hf3 hnm
  have Hn : Hid (n = L.length) := hn
  have HLn : Hid (∀ k (h : k < L.length), (L[k]).length ≤ bs.length) := HLn
  clear hb3' hR2 hO2 hLL
  have hne1 : ((n : Int) != (n : Int)) = false := by simp
  have hne2 : ((E : Int) != (E : Int)) = false := by simp
  rw [← hn] at hR2' hR3 ⊢
  clear hn
  go_wp2
  go_loopw [8] (fun i wr => ∃ k : Nat, k ≤ n ∧ i = .int .i64 k ∧ Chg w3 wr (fun b => b ∈ gs.take k)) (fun i _ => n - (intOf i).toNat)
  case atStart => exact ⟨0, Nat.zero_le _, rfl, Chg.refl _ _⟩
  case round =>
    obtain ⟨k, hk, rfl, hch⟩ := hrel
    rename World => w5
    by_cases hlt : k < n
    · obtain ⟨g2, rfl⟩ := hf2 k hlt
      obtain ⟨g3, rfl, hg3⟩ := hf3 k hlt
      have hkL : k < L.length := by have := Hn.out; omega
      have hkg : k < gs.length := by omega
      obtain ⟨hc2, hB2⟩ := hR2'.chg k hch k hkL hkg
      have hR3' := hR3.chg hch (fun b hb e => by have := hlt2 b (List.mem_of_mem_take e); omega)
      obtain ⟨a4, c4, hc3, hB3⟩ := hR3'.get k hkL
      have hOk := hB2 (Nat.le_refl _)
      have hX : Bytes8 w5 (gs[k]'hkg) (L[k]'hkL).length := Bytes8.of_bytes rfl hOk
      obtain ⟨_, _, hvk, _, _, hBk, _, _⟩ := Own.bs hOk
      unfold sl at hvk
      simp only [Value.slice.injEq] at hvk
      rw [← hvk.1] at hBk
      have hgk2 : w1.heap.size ≤ gs[k]'hkg ∧ gs[k]'hkg < w2.heap.size := ⟨hge2 _ (List.getElem_mem hkg), hlt2 _ (List.getElem_mem hkg)⟩
      have hstep : ∀ wr2 : World, Chg w5 wr2 (fun b => b = gs[k]'hkg) → Chg w3 wr2 (fun b => b ∈ gs.take (k + 1)) := fun wr2 hc => by
        refine (hch.mono (fun i _ e => ?_)).trans hc (fun i _ e => ?_)
        · rw [List.take_succ_eq_append_getElem hkg]; exact List.mem_append_left _ e
        · rw [List.take_succ_eq_append_getElem hkg, e]; exact List.mem_append_right _ (List.mem_singleton.2 rfl)
      have hcell2 : ∀ wr2 : World, Chg w5 wr2 (fun b => b = gs[k]'hkg) → wr2.cell? ⟨g2, k, none⟩ = some (.slice (some ⟨gs[k]'hkg, 0, none⟩) (L[k]'hkL).length (L[k]'hkL).length) := fun wr2 hc => (hR2'.chg (k + 1) (hstep wr2 hc) k hkL hkg).1
      have hlk : (L[k]'hkL).length ≤ 1048576 := by have := HLn.out k hkL; omega
      generalize L[k]'hkL = x at *
      generalize gs[k]'hkg = gk at *
      have s1 : ∀ n, (convert 26 9 (.slice (some ⟨gk, 0, none⟩) x.length x.length)).run Tryd.prog (w5.drewN n) = .ok (.string ⟨x.toArray⟩) (w5.drewN n) := fun n => run_str (hBk.keep (fun a v h => by simpa using h)) x.length
      have s2 : ∀ n, (convert 26 9 (.slice a4 x.length c4)).run Tryd.prog (w5.drewN n) = .ok (.string ⟨x.toArray⟩) (w5.drewN n) := fun n => run_str (hB3.keep (fun a v h => by simpa using h)) c4
      clear hB2 hOk hvk hBk hR3' hB3 hf2 hf3 hR3 hR2' hch
      have HST : Hid (∀ wr2 : World, Chg w5 wr2 (fun b => b = gk) → Chg w3 wr2 (fun b => b ∈ gs.take (k + 1))) := hstep
      have HC2 : Hid (∀ wr2 : World, Chg w5 wr2 (fun b => b = gk) → wr2.cell? ⟨g2, k, none⟩ = some (.slice (some ⟨gk, 0, none⟩) x.length x.length)) := hcell2
      clear hstep hcell2 hlt2 hge2
      go_wp2
      go_quiet (fail)
      have hX0 : Bytes8 (w5.drewN nq) gk x.length := hX.chg (Chg.drewN _ _ (fun _ => False)) id
      clear s1 s2 hX
      go_wp2
      go_loopw [9] (fun i wq => ∃ q : Nat, q ≤ x.length ∧ i = .int .i64 q ∧ Bytes8 wq gk x.length ∧ Chg w5 wq (fun b => b = gk)) (fun i _ => x.length - (intOf i).toNat)
      case atStart => exact ⟨0, Nat.zero_le _, rfl, hX0, Chg.drewN _ _ _⟩
      case round =>
        clear hX0
        obtain ⟨q, hq, rfl, hXq, hcq⟩ := hrel
        have hh := HC2.out wr hcq
        by_cases hqt : q < x.length
        · obtain ⟨y, hy, cy, fy⟩ := hXq.cell q hqt
          have hv : ((y : Int) + 1) % 256 = (((y + 1) % 256 : Nat) : Int) := by omega
          have hX' := hXq.set q ((y + 1) % 256) _ hv (by omega)
          have hcs : ∀ v, Chg w5 (wr.setCell ⟨gk, q, none⟩ v) (fun b => b = gk) := fun v => hcq.trans (Chg.setCell wr ⟨gk, q, none⟩ v) (fun _ _ e => e)
          clear hXq hv
          go_wp2
          go_region
          have hX2 := hX'.chg (Chg.drew _ (fun _ => False)) id
          have hc2' := (hcs (.int .u8 (((y : Int) + 1) % 256))).trans (Chg.drew _ (fun _ => False)) (fun _ _ e => e.elim)
          clear hX' hcs
          go_wp2
          go_roundw
          case rel => exact ⟨q + 1, by omega, by go_num, hX2, hc2'⟩
          case measure => simp [intOf]; omega
        · have hc' := HST.out wr hcq
          clear hXq
          go_wp2
          exact ⟨⟨k + 1, by omega, by go_num, hc'⟩, by simp only [intOf]; omega⟩
    · have hbl : Below w.heap.size w w5 := hb3.trans (hch.below hb3.size (fun i e => by have := hge2 i (List.mem_of_mem_take e); omega))
      have hOw : OwnB w5 w.heap.size (.slice (some ⟨g, 0, none⟩) (len + 2) c) (bs ++ [77, 78]) := Own.chg hO3 hch (fun b hb e => by cases hb; have := hge2 g (List.mem_of_mem_take e); omega)
      have htw := ht.keep (below_keep hbl)
      clear hf2 hf3 hR3 hR2' hch hlt2 hge2 hO3
      go_wp2_with fail
      refine (stays_any g len c _ bs ao cap _ hl (by omega) hOw (hb.keep (below_keep hbl))).mono ?_
      rintro e w6 ⟨rfl, hb6'⟩
      have hb6 := hbl.trans (hb6'.mono hbl.size)
      go_wp2_with fail
      refine (knows_any w6 (ht.keep (below_keep hb6))).mono ?_
      rintro e w7 ⟨rfl, hb7'⟩
      have hb7 := hb6.trans (hb7'.mono hb6.size)
      go_wp2
      go_ret
      exact ⟨rfl, hb7⟩
end Go.Proofs.YtjnmgnnaefiegaaDoor
