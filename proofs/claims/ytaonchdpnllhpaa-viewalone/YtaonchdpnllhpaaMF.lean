/- Layer 17: a state's log is written anew. -/
import Derived.Test.YtaonchdpnllhpaaME
import Derived.Deep.RegionLaw
namespace Go.Proofs.Ytaonchdpnllhpaa
open Go.RowKit
theorem elemN_ent : ElemN Try.prog 27 56 2 24 := by
  obtain ⟨i, hi, hz0, hz1, hz2⟩ := info_parts (show (Try.prog.info? 56).map (fun i => (i.zero, i.size, i.bytes)) = some (some (.agg #[.int .i64 0, .string ⟨#[]⟩]), 2, 24) by kernel_rfl)
  exact ⟨Try.underlying27, ⟨i, _, hi, hz0, hz1, hz2, rfl⟩, by decide⟩
theorem SStep.bel {w0 w w' : World} {b : Nat} {v v' : Value} (h : SStep b w v w' v') (hb : Below w0.heap.size w0 w) (h1 : w0.heap.size ≤ b) (h2 : ∀ k, v.ownBlock = some k → w0.heap.size ≤ k) : Below w0.heap.size w0 w' :=
  hb.trans (h.1.below hb.size fun i e => by
    rcases e with e | e
    · omega
    · exact h2 i e)
theorem sat_app {w3 w6 : World} {base b : Nat} {s : St17} {v v' : Value} {o : Obj} {x : Ent} (H : SAt w3 base b s v) (hr : w6.ownsRow base 56 2 v' (s.log.length + 1) (cellsE s.log ++ [.int .i64 x.v, .string ⟨x.d.toArray⟩])) (hs : Step (w3.alloc o) v w6 v') :
    w6.cell? ⟨b, 3, none⟩ = some v ∧ w6.frozen? ⟨b, 3, none⟩ = false ∧ b < w6.heap.size ∧ SAt (w6.setCell ⟨b, 3, none⟩ v') base b ⟨s.vw, s.nm, s.cm, s.log ++ [x]⟩ v' ∧ SStep b w3 v (w6.setCell ⟨b, 3, none⟩ v') v' := by
  have hlt := lt_of_block H.box
  have hne := H.own_ne
  have hz : (w3.alloc o).heap.size = w3.heap.size + 1 := by simp
  have b6 : w6.heap[b]? = some (.cells #[.int .i64 s.vw, .int .i64 s.nm, .int .i64 s.cm, v] 29 (0, 0)) := by
    rw [hs.1.block b (by omega) (fun e => hne e.symm), Below.heap_alloc _ _ _ hlt]; exact H.box
  have hv' : v'.ownBlock ≠ some b := by
    rcases hs.2 with e | ⟨g, e, hg⟩
    · rw [e]; exact hne
    · rw [e]; intro h; injection h with h; omega
  have hr' : w6.ownsRow base 56 2 v' (s.log ++ [x]).length (cellsE (s.log ++ [x])) := by
    rw [cellsE_app, cellsE_one, List.length_append]; exact hr
  have k1 : Chg w3 w6 (STurn b v) := (Chg.alloc w3 o _).trans (Chg.of_grown hs.1) fun i _ e => .inr e
  refine ⟨by rw [Lib.cell_of_heap b6]; rfl, Lib.frozen_of_heap b6 3, lt_of_block b6, ⟨by rw [heap_setCell_same _ _ _ _ _ _ b6]; rfl, row_chg4 hr' (Chg.setCell w6 ⟨b, 3, none⟩ _) fun g e e2 => hv' (by rw [e]; exact congrArg some e2)⟩, k1.trans (Chg.setCell w6 ⟨b, 3, none⟩ v') (fun i _ e => .inl e), ?_⟩
  rcases hs.2 with e | ⟨g, e, hg⟩
  · exact .inl e
  · exact .inr ⟨g, e, by omega⟩
set_option maxRecDepth 100000 in
set_option maxHeartbeats 1000000 in
theorem relog_any17 (w0 : World) (b base : Nat) (s : St17) (v : Value) (op : Nat) (a : Option Addr) (n c : Nat) (L : List Ent) (w : World) (H : SAt w base b s v) (hm : s.log.length ≤ 2048) (hn : L.length = n) (hnm : n ≤ 9000000000000) (hop : op ≤ 9000000000000) (hN : EsAt w0.cell? a L) (hs : ∀ x ∈ L, x.d.length ≤ 281474976710656) (hb0 : Below w0.heap.size w0 w) (hbase : w0.heap.size ≤ base) (hbb : w0.heap.size ≤ b) (hbs : base ≤ w.heap.size) : Calls Try.prog 62 #[.pointer (some ⟨b, 0, none⟩), .int .i64 op, .slice a n c] w (FolEnd b base (folL s op L) w v) := by
  obtain ⟨va, vc, rfl, hvc, _, hva⟩ := row_form H.row
  obtain ⟨c0, c1, c2, c3, fr⟩ := H.c
  have f3 := fr 3
  have hlt := lt_of_block H.box
  by_cases h1 : op > s.log.length
  · have HE : Hid (folL s op L = none) := hid (by unfold folL; rw [if_pos (.inl h1)])
    generalize s.log.length = m at *
    clear H hN hs hn hva
    go_enter Try.func62, Try.ntmps62
    go_wp2_with fail
    go_ret
    exact .inl ⟨HE.out, rfl, _, SStep.refl _ _ _⟩
  by_cases h2 : op + n > 2048
  · have HE : Hid (folL s op L = none) := hid (by unfold folL; rw [if_pos (.inr (by omega))])
    generalize s.log.length = m at *
    clear H hN hs hn hva
    go_enter Try.func62, Try.ntmps62
    go_wp2_with fail
    go_ret
    exact .inl ⟨HE.out, rfl, _, SStep.refl _ _ _⟩
  have HE : Hid (folL s op L = some ⟨s.vw, s.nm, s.cm, s.log.take op ++ L⟩) := hid (by unfold folL; rw [if_neg (by omega)])
  have hcut := row_cut H.row op (by omega)
  rw [← cellsE_take] at hcut
  have hlen : (s.log.take op).length = op := by rw [List.length_take]; omega
  have hob : ∀ m m', (Value.slice va m vc).ownBlock = (Value.slice va m' vc).ownBlock := by cases va <;> intros <;> rfl
  have HS : Hid (SAt (w.setCell ⟨b, 3, none⟩ (.slice va op vc)) base b ⟨s.vw, s.nm, s.cm, s.log.take op⟩ (.slice va op vc)) := hid (H.set_log (by rw [hlen]; exact hcut) (by rw [hob op s.log.length]; exact H.own_ne))
  have HT : Hid (SStep b w (.slice va s.log.length vc) (w.setCell ⟨b, 3, none⟩ (.slice va op vc)) (.slice va op vc)) := hid ⟨(Chg.setCell w ⟨b, 3, none⟩ _).mono fun _ _ e => .inl e, .inl (hob _ _)⟩
  have HV : Hid (∀ k, (Value.slice va s.log.length vc).ownBlock = some k → w0.heap.size ≤ k) := hid fun k e => Nat.le_trans hbase (row_lt4 H.row k e).1
  have HZ := hid hN
  have HD := hid hs
  have HN := hid hn
  have HB0 := hid hb0
  have hle : op ≤ vc := by omega
  generalize hm0 : s.log.length = m at *
  generalize s.log.take op = P at *
  generalize s.vw = svw at *
  generalize s.nm = snm at *
  generalize s.cm = scm at *
  have eC : ∀ args w, (callFunc 23 args).run Try.prog w = .ok (.enter 23 args) w := enters_of Try.func23 (by kernel_rfl) rfl
  clear H hN hs hn hcut hva hb0 hm0 hob
  go_enter Try.func62, Try.ntmps62
  go_wp2_with fail
  have hd : decide ((2048 : Int) < (op : Int) + (n : Int)) = false := decide_eq_false (by omega)
  simp only [hd]
  go_loopw [34] (fun iv wr => ∃ (k : Nat) (v : Value), iv = .int .i64 k ∧ k ≤ n ∧ Hid (SAt wr base b ⟨svw, snm, scm, P ++ L.take k⟩ v) ∧ Hid (SStep b w (.slice va m vc) wr v)) (fun iv _ => n - (intOf iv).toNat)
  case atStart => exact ⟨0, _, rfl, Nat.zero_le _, by rw [List.take_zero, List.append_nil]; exact HS, HT⟩
  case round =>
    obtain ⟨k, v, rfl, hk, HS, HT⟩ := hrel
    by_cases hlt : k < n
    · have hkl : k < L.length := by rw [HN.out]; exact hlt
      have hbr : Below w0.heap.size w0 wr := HT.out.bel HB0.out hbb HV.out
      obtain ⟨zb, zo, e1, z0, z1⟩ := (HZ.out.keep (below_keep hbr)).get hkl
      subst e1
      have HC := hid fun W => sclone_any L[k].d W (HD.out _ (List.getElem_mem hkl))
      have HP : Hid (P ++ L.take (k + 1) = (P ++ L.take k) ++ [L[k]]) := hid (by rw [List.take_add_one, List.getElem?_eq_getElem hkl, List.append_assoc]; rfl)
      have hPl : (P ++ L.take k).length + 1 ≤ 2048 := by rw [List.length_append, List.length_take, hlen]; omega
      obtain ⟨x, hx⟩ : ∃ x, x = L[k] := ⟨_, rfl⟩
      rw [← hx] at HC HP z0 z1
      clear hx
      obtain ⟨xv, xd⟩ := x
      simp only at z0 z1 HC
      generalize hP2 : P ++ L.take (k + 1) = P2 at *
      have HQ := hid hP2
      clear hP2
      generalize P ++ L.take k = P1 at *
      have hrow := HS.out.row
      simp only at hrow
      obtain ⟨ra, rc, rfl, _, _, _⟩ := row_form hrow
      clear hrow
      have hbase2 : base ≤ wr.heap.size := Nat.le_trans hbs HT.out.1.size
      obtain ⟨W5, hW5⟩ : ∃ W, W = wr.alloc (.cells #[.int .i64 xv, .string ⟨xd.toArray⟩] 56) := ⟨_, rfl⟩
      have hb5 : Below wr.heap.size wr W5 := by rw [hW5]; exact (Below.refl _ wr).alloc (Nat.le_refl _) _
      have b5 : W5.heap[wr.heap.size]? = some (.cells #[.int .i64 xv, .string ⟨xd.toArray⟩] 56 (0, 0)) := by rw [hW5]; exact heap_alloc_new wr _
      have HF : Hid (∀ W, Below W5.heap.size W5 W → (W.cell? ⟨wr.heap.size, 0, none⟩ = some (.int .i64 xv) ∧ W.cell? ⟨wr.heap.size, 1, none⟩ = some (.string ⟨xd.toArray⟩) ∧ wr.heap.size < W.heap.size) ∧ (W.cell? ⟨b, 3, none⟩ = some (.slice ra P1.length rc) ∧ b < W.heap.size) ∧ SAt W base b ⟨svw, snm, scm, P1⟩ (.slice ra P1.length rc)) := hid fun W hW => by
        have hb := hb5.trans (hW.mono hb5.size)
        have hs := HS.out.below hb
        have hb' := (hW.block _ (lt_of_block b5)).trans b5
        exact ⟨⟨by rw [Lib.cell_of_heap hb']; rfl, by rw [Lib.cell_of_heap hb']; rfl, lt_of_block hb'⟩, ⟨hs.c.2.2.2.1, lt_of_block hs.box⟩, hs⟩
      have HG : Hid (∀ w9 v9, SAt w9 base b ⟨svw, snm, scm, P2⟩ v9 → (∃ w3, Below W5.heap.size W5 w3 ∧ SStep b w3 (.slice ra P1.length rc) w9 v9) → SStep b w (.slice va m vc) w9 v9) := hid fun w9 v9 _ ⟨w3, h3, h4⟩ => (HT.out.trans (SStep.below (hb5.trans (h3.mono hb5.size)))).trans h4
      obtain ⟨⟨x0, x1, xl⟩, ⟨y0, yl⟩, _⟩ := HF.out W5 (Below.refl _ _)
      obtain ⟨⟨u0, u1, ul⟩, ⟨t0, tl⟩, _⟩ := HF.out W5.drew (Below.refl _ _).drew
      clear HS HT hbr
      go_wp2_with fail
      rw [← hW5]
      clear hW5
      go_region_law (first
        | (refine step_call2 (by rfl) 23 #[.tmp 46] #[9] (by rfl) eC #[.string ⟨xd.toArray⟩] (by rfl) _ (HC.out _) ?_; rintro e w3 ⟨rfl, hb3⟩; refine ⟨_, rfl, ?_⟩; replace hb3 : Below W5.heap.size W5 w3 := (Below.refl _ W5).drew.trans hb3; have H3 := HF.out w3 hb3; obtain ⟨⟨p0, p1, pl⟩, ⟨q0, ql⟩, HS3⟩ := H3)
        | (refine step_appN _ (by rfl) (.tmp 42) (.tmp 49) 27 (by rfl) elemN_ent base (.slice ra P1.length rc) P1.length (cellsE P1) (by rfl) (World.ownsRow.alloc HS3.row _) _ (by rfl) 1 [.int .i64 xv, .string ⟨xd.toArray⟩] (.inr ⟨⟨_, 0, none⟩, 1, rfl, cells_new4 _ [.int .i64 xv, .string ⟨xd.toArray⟩] 56 _ rfl⟩) rfl (by simp [Value.oneCell']) (by simp only [maxLen]; omega) (by omega) (by simp only [World.size_alloc]; have := hb3.size; omega) ?_; intro v' w6 hr6 hs6; obtain ⟨a6, c6, rfl, _, _, _⟩ := row_form hr6; have H6 := sat_app (x := ⟨xv, xd⟩) HS3 hr6 hs6; obtain ⟨g0, g1, gl, g2, g3⟩ := H6; clear hr6 hs6))
      all_goals
        go_wp2_with fail
        simp only at g2
        rw [← HP.out] at g2
        have G := HG.out _ _ g2 ⟨w3, hb3, g3⟩
        rw [← HQ.out] at g2
        exact ⟨⟨k + 1, _, by go_num, by omega, hid g2, hid G⟩, by simp [intOf]; omega⟩
    · go_wp2_with fail
      go_ret
      have e : P ++ L.take k = P ++ L := by rw [List.take_of_length_le (by rw [HN.out]; omega)]
      rw [e] at HS
      exact .inr ⟨_, _, HE.out, rfl, HS.out, HT.out⟩
end Go.Proofs.Ytaonchdpnllhpaa
