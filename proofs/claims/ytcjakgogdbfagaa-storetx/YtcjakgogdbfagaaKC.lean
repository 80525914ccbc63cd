/- Layer 11: a transaction's Commit. -/
import Derived.Test.YtcjakgogdbfagaaKB
import Derived.Test.YtcjakgogdbfagaaQY
import Derived.Deep.RegionHeld3
namespace Go.Proofs.Ytcjakgogdbfagaa
open Go.RowKit
theorem row_apart {w : World} {B n tb g : Nat} {v : Value} {xs : List Value} {L : Kvs} (h : w.ownsRow B 75 2 v n xs) (t : TreeAt tb g L w) : v.ownBlock ≠ some tb ∧ v.ownBlock ≠ some g := by
  obtain ⟨n, cap, root, f, T, h1, h2⟩ := t
  obtain ⟨cur, h3, _⟩ := h1.nb
  exact ⟨fun e => absurd (row_typed h e h1.box) (by decide), fun e => absurd (row_typed h e h3) (by decide)⟩
theorem row_kt {w w' : World} {B n size : Nat} {e : TypeId} {v : Value} {xs : List Value} {S : Nat → Prop} (h : w.ownsRow B e size v n xs) (k : Kt S w w') (hs : ∀ g, v.ownBlock = some g → ¬ S g) : w'.ownsRow B e size v n xs := by
  refine ⟨h.1, ?_⟩
  rcases h.2 with ⟨rfl, h0⟩ | ⟨g, cap, cur, rfl, hb, hc, hr⟩
  · exact .inl ⟨rfl, h0⟩
  · exact .inr ⟨g, cap, cur, rfl, hb, (k.block g (heap_ltb hc) (hs g rfl)).trans hc, hr⟩
/-- The transaction's store has other pairs. -/
theorem TxAt.tree {b : TxB} {L L' S D : Kvs} {more : Int} {w w' : World} {g' : Nat} (h : TxAt b L S D more w) (t : TreeAt b.tb g' L' w') (hs : g' = b.g ∨ w.heap.size ≤ g') (k : Kt (fun i => i = b.tb ∨ i = b.g) w w') : TxAt { b with g := g' } L' S D more w' :=
  ⟨(k.block _ (heap_ltb h.box) (fun e => e.elim (fun e => h.nd.xt e) (fun e => h.nd.xg e))).trans h.box, (k.block _ (heap_ltb h.cbx) (fun e => e.elim (fun e => h.nd.ct e) (fun e => h.nd.cg e))).trans h.cbx, t, h.s.kt k (fun e => e.elim (fun e => h.nd.ts e.symm) (fun e => h.nd.gs e.symm)) (fun e => e.elim (fun e => h.nd.th e.symm) (fun e => h.nd.gh e.symm)), h.d.kt k (fun e => e.elim (fun e => h.nd.tw e.symm) (fun e => h.nd.gw e.symm)) (fun e => e.elim (fun e => h.nd.tv e.symm) (fun e => h.nd.gv e.symm)),
    ⟨h.nd.xc, h.nd.xt, ne_new (heap_ltb h.box) h.nd.xg hs, h.nd.xs, h.nd.xh, h.nd.xw, h.nd.xv, h.nd.ct, ne_new (heap_ltb h.cbx) h.nd.cg hs, h.nd.cs, h.nd.ch, h.nd.cw, h.nd.cv, ne_new (h.t.lts.1) h.nd.tg hs, h.nd.ts, h.nd.th, h.nd.tw, h.nd.tv, (ne_new (h.s.lts.1) h.nd.gs.symm hs).symm, (ne_new (h.s.lts.2.1) h.nd.gh.symm hs).symm, (ne_new (h.d.lts.1) h.nd.gw.symm hs).symm, (ne_new (h.d.lts.2.1) h.nd.gv.symm hs).symm, h.nd.sh, h.nd.sw, h.nd.sv, h.nd.hw, h.nd.hv, h.nd.wv⟩⟩
/-- What Commit leaves. -/
def CmEnd (b : TxB) (M : Kvs) (w : World) (e : Ending) (w' : World) : Prop := e = .returned (.int .i64 0) ∧ Hid (∃ g' sb' sg' wb' wg', TxAt ⟨b.xb, b.cb, b.tb, g', sb', sg', wb', wg'⟩ M [] [] 0 w' ∧ (g' = b.g ∨ w.heap.size ≤ g') ∧ w.heap.size ≤ sb' ∧ w.heap.size ≤ sg' ∧ w.heap.size ≤ wb' ∧ w.heap.size ≤ wg' ∧ Kt (fun i => i = b.cb ∨ i = b.tb ∨ i = b.g) w w')
/-- The transaction has no changes: new trees. -/
theorem TxAt.bare {b : TxB} {L S D : Kvs} {more : Int} {w w' : World} {sb' sg' wb' wg' : Nat} (h : TxAt b L S D more w) (hb : Below w.heap.size w w') (t1 : TreeAt sb' sg' [] w') (t2 : TreeAt wb' wg' [] w') (nd : [sb', sg', wb', wg'].Nodup) (x1 : w.heap.size ≤ sb') (x2 : w.heap.size ≤ sg') (x3 : w.heap.size ≤ wb') (x4 : w.heap.size ≤ wg') : TxAt ⟨b.xb, b.cb, b.tb, b.g, sb', sg', wb', wg'⟩ L [] [] 0 (set3c w' b.cb (.pointer (some ⟨sb', 0, none⟩)) (.pointer (some ⟨wb', 0, none⟩)) (.int .i64 0)) := by
  have h2 := h.below hb
  have l0 := heap_ltb h.box
  have l1 := heap_ltb h.cbx
  have l2 := h.t.lts
  simp only [List.nodup_cons, List.mem_cons, List.not_mem_nil, or_false, not_or] at nd
  obtain ⟨⟨q1, q2, q3⟩, ⟨q4, q5⟩, q6, _⟩ := nd
  refine ⟨(set3c_other h.nd.xc).trans h2.box, set3c_blk h2.cbx _ _ _, h2.t.keep (set3c_other h.nd.ct.symm) (set3c_other h.nd.cg.symm), t1.keep (set3c_other (by omega)) (set3c_other (by omega)), t2.keep (set3c_other (by omega)) (set3c_other (by omega)), ?_⟩
  have hg := h.nd
  obtain ⟨xb, cb, tb, g, _, _, _, _⟩ := b
  exact ⟨hg.xc, hg.xt, hg.xg, by dsimp only at *; omega, by dsimp only at *; omega, by dsimp only at *; omega, by dsimp only at *; omega, hg.ct, hg.cg, by dsimp only at *; omega, by dsimp only at *; omega, by dsimp only at *; omega, by dsimp only at *; omega, hg.tg, by dsimp only at *; omega, by dsimp only at *; omega, by dsimp only at *; omega, by dsimp only at *; omega, by dsimp only at *; omega, by dsimp only at *; omega, by dsimp only at *; omega, by dsimp only at *; omega, q1, q2, q3, q4, q5, q6⟩
theorem ap1_len {D L : Kvs} (h : SrtL L) (x : Bt × Bt) : (ap1 D L x).length ≤ L.length + 1 := by
  unfold ap1
  split
  · have := delL_len h x.1
    omega
  · rw [putL_len h]
    split <;> omega
theorem apL_lenle {D : Kvs} : ∀ {C L : Kvs}, SrtL L → (apL D L C).length ≤ L.length + C.length
  | [], L, _ => by simp [apL]
  | x :: C, L, h => by
    have h1 := apL_lenle (D := D) (C := C) (L := ap1 D L x) (ap1_srt h x)
    have h2 := ap1_len (D := D) h x
    rw [apL, List.length_cons]
    omega
theorem difs_len {L S D M C : Kvs} (hp : C.Perm (chgA L S ++ chgB L D)) : M.length = M.length ∧ C.length ≤ S.length + D.length := ⟨rfl, by rw [hp.length_eq]; exact ch_b3⟩
/-- What is not wiped, and differs, is shown. -/
theorem difs_mem {L S D M C : Kvs} (h : Shows L S D M) (hC : Difs L M C) {x : Bt × Bt} (hx : x ∈ C) (hd : getL D x.1 = none) : x ∈ M := by
  have h1 := getL_some hC.srt hx
  rw [hC.get, dif] at h1
  split at h1
  · cases h1
  · rename_i ne
    cases hm : getL M x.1 with
    | some v =>
      rw [hm] at h1
      injection h1 with h1
      have := getL_mem hm
      rw [show x = (x.1, v) from by rw [show v = x.2 from h1]]
      exact this
    | none =>
      exfalso
      have hM := h.get x.1
      rw [hm, loadL, hd] at hM
      simp only [Option.isSome_none, Bool.false_eq_true, if_false] at hM
      cases hs : getL S x.1 with
      | some v => rw [hs] at hM; cases hM
      | none => rw [hs] at hM; exact ne (hM.symm.trans hm.symm)
/-- While the changes are done. -/
def CmI (b : TxB) (L S D C : Kvs) (more : Int) (w : World) (va : Option Addr) (n vc k : Nat) (wr : World) : Prop := ∃ g', TxAt { b with g := g' } (apL D L (C.take k)) S D more wr ∧ (g' = b.g ∨ w.heap.size ≤ g') ∧ Kt (fun i => i = b.tb ∨ i = b.g) w wr ∧ wr.ownsRow (w.heap.size + 2) 75 2 (.slice va n vc) C.length (cellsP C)
theorem CmI.below {b : TxB} {L S D C : Kvs} {more : Int} {w : World} {va : Option Addr} {n vc k : Nat} {wr w' : World} (h : CmI b L S D C more w va n vc k wr) (hb : Below wr.heap.size wr w') : CmI b L S D C more w va n vc k w' := by
  obtain ⟨g', h1, h2, h3, h4⟩ := h
  exact ⟨g', h1.below hb, h2, h3.trans (Kt.below hb) fun _ _ e => e, row_below2 h4 hb⟩
theorem CmI.step {b : TxB} {L S D C : Kvs} {more : Int} {w : World} {va : Option Addr} {n vc k : Nat} {wr w' : World} (hk : k < C.length) {g' g2 : Nat} (h1 : TxAt { b with g := g' } (apL D L (C.take k)) S D more wr) (h2 : g' = b.g ∨ w.heap.size ≤ g') (h3 : Kt (fun i => i = b.tb ∨ i = b.g) w wr) (h4 : wr.ownsRow (w.heap.size + 2) 75 2 (.slice va n vc) C.length (cellsP C))
    (t : TreeAt b.tb g2 (ap1 D (apL D L (C.take k)) C[k]) w') (hg : g2 = g' ∨ wr.heap.size ≤ g2) (kt : Kt (fun i => i = b.tb ∨ i = g') wr w') : CmI b L S D C more w va n vc (k + 1) w' := by
  have ha := row_apart h4 h1.t
  have hT := h1.tree t hg kt
  refine ⟨g2, ?_, ?_, ?_, row_kt h4 kt fun g e => ?_⟩
  · rw [take_snocK hk, apL_app]
    exact hT
  · have := h3.size
    rcases hg with e | e
    · rw [e]; exact h2
    · exact .inr (by omega)
  · refine h3.trans kt fun i hi e => ?_
    rcases e with e | e
    · exact .inl e
    · rcases h2 with x | x
      · exact .inr (e.trans x)
      · omega
  · rintro (x | x)
    · exact ha.1 (by rw [e, x])
    · exact ha.2 (by rw [e, x])
theorem cm_b1 {l s d N : Nat} (h : (l + s + d + 4) * 46 ≤ N) : (s + d + 2) * 46 ≤ N := Nat.le_trans (Nat.mul_le_mul (by omega : s + d + 2 ≤ l + s + d + 4) (Nat.le_refl 46)) h
theorem cm_b2 {l s d N k : Nat} (h : (l + s + d + 4) * 46 ≤ N) (hk : k ≤ s + d) : k ≤ N := Nat.le_trans (Nat.le_trans (by omega : k ≤ l + s + d + 4) (Nat.le_mul_of_pos_right _ (by decide))) h
theorem cm_b3 {l s d N k : Nat} (h : (l + s + d + 4) * 46 ≤ N) (hk : k ≤ l + s + d) : (k + 2) * 46 ≤ N := Nat.le_trans (Nat.mul_le_mul (by omega : k + 2 ≤ l + s + d + 4) (Nat.le_refl 46)) h
theorem commit_head (hsort : SortsP) (b : TxB) (L S D M : Kvs) (more : Int) (w : World) (h : TxAt b L S D more w) (hM : Shows L S D M) (hS : (L.length + S.length + D.length + 4) * 46 ≤ 140737488355328) :
    Calls Try.prog 20 #[.pointer (some ⟨b.xb, 0, none⟩)] w fun e w1 => ∃ va n vc, e = .returned (.slice va n vc) ∧ w1.cell? ⟨b.xb, 0, none⟩ = some (.pointer (some ⟨b.tb, 0, none⟩)) ∧ Hid (Calls Try.prog 34 #[.pointer (some ⟨b.tb, 0, none⟩)] w1 fun e w' => e = .returned (.int .i64 (L.length : Nat)) ∧ w' = w1) ∧ Hid (Calls Try.prog 42 #[.pointer (some ⟨b.xb, 0, none⟩), .slice va n vc] w1 fun e w2 => e = .returned (.int .i64 ((M.length : Int) - L.length)) ∧ Hid (∃ C, n = C.length ∧ n ≤ S.length + D.length ∧ Difs L M C ∧ CmI b L S D C more w va n vc 0 w2)) := by
  refine (changes_any b L S D more w h (cm_b1 hS) hsort).mono ?_
  rintro e w1 ⟨v, C, rfl, hp, hso, hr, hT, hb⟩
  obtain ⟨va, vc, rfl, _⟩ := row_form hr
  have hdf := difs_of hM h.s.srt h.d.srt hp hso
  have hlen := (difs_len (M := M) hp).2
  refine ⟨va, _, vc, rfl, hT.x0, hidb (count_t _ _ _ _ hT.t), hidb ((growth_any b L S D more w1 hT _ vc va C hr (Nat.le_trans (cm_b2 hS hlen) (by decide))).mono ?_)⟩
  rintro e w2 ⟨rfl, hb2⟩
  have hg := grow_shown hM h.t.srt hdf
  refine ⟨by rw [hg]; congr 2; omega, hidb ⟨C, rfl, hlen, hdf, b.g, ?_, .inl rfl, (Kt.below hb).trans (Kt.below hb2) fun _ _ e => e, row_below2 hr hb2⟩⟩
  exact hT.below hb2
end Go.Proofs.Ytcjakgogdbfagaa
