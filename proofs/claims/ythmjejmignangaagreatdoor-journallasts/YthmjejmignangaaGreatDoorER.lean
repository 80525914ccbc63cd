/- Layer 15: Crash. Layer 16: a journal's log; what it writes. -/
import Derived.Test.YthmjejmignangaaGreatDoorEP
import Derived.Test.YthmjejmignangaaGreatDoorJP
import Derived.Test.YthmjejmignangaaGreatDoorEY
namespace Go.Proofs.YthmjejmignangaaGreatDoor
open Go.RowKit
theorem crC_cs (f : Fl) (fates : List Int) : (crF f fates).1.cs.length ≤ f.cs.length := by
  have h1 : ∀ l : List Sec, (cutS l).length ≤ l.length := by
    intro l
    induction l with
    | nil => exact Nat.le_refl _
    | cons x l ih =>
      unfold cutS
      split
      · simp
      · simp only [List.length_cons]; omega
  show ((trimS (crC f.cs fates).1).map fun s => (⟨s, none⟩ : Cl)).length ≤ _
  rw [List.length_map, trimS, List.length_map]
  have := h1 (crC f.cs fates).1
  rw [crC_len] at this
  exact this
/-- The fates that are left behind some files. -/
def fatesAt : List Fl → List Int → List Int
  | [], f => f
  | g :: gs, f => fatesAt gs (crF g f).2
theorem crFs_app (A B : List Fl) (f : List Int) : crFs (A ++ B) f = crFs A f ++ crFs B (fatesAt A f) := by
  induction A generalizing f with
  | nil => rfl
  | cons g A ih => simp only [List.cons_append, crFs, fatesAt, ih]
theorem fatesAt_app (A B : List Fl) (f : List Int) : fatesAt (A ++ B) f = fatesAt B (fatesAt A f) := by
  induction A generalizing f with
  | nil => rfl
  | cons g A ih => simp only [List.cons_append, fatesAt, ih]
theorem DkEnd.drew {K : Nat → Prop} {db : Nat} {d : Dk} {w W : World} (h : DkEnd K db d w W) : DkEnd K db d w W.drew := ⟨h.1.below ⟨rfl, rfl, rfl, Nat.le_refl _, fun _ _ => rfl⟩, h.2.drewN 1⟩
/-- While files crash: k have. -/
structure CkI (own K : Nat → Prop) (db vb : Nat) (fsv : Value) (zs0 : Zs) (d : Dk) (fates : List Int) (k : Nat) (v : Value) (w W : World) : Prop where
  ex : ∃ zs, DMid own db vb fsv zs d.most d.fuse d.off w W ∧ zs.length = zs0.length ∧ zs.drop k = zs0.drop k ∧ (zs.take k).map Prod.snd = crFs ((zs0.take k).map Prod.snd) fates ∧ zs.map (fun z => z.1.fb) = zs0.map fun z => z.1.fb
  fat : FatO (fun i => ¬ K i) W v (fatesAt ((zs0.take k).map Prod.snd) fates)
theorem CkI.drew {own K : Nat → Prop} {db vb : Nat} {fsv : Value} {zs0 : Zs} {d : Dk} {fates : List Int} {k : Nat} {v : Value} {w W : World} (h : CkI own K db vb fsv zs0 d fates k v w W) : CkI own K db vb fsv zs0 d fates k v w W.drew := by
  obtain ⟨⟨zs, M, r⟩, F⟩ := h
  exact ⟨⟨zs, M.below ⟨rfl, rfl, rfl, Nat.le_refl _, fun _ _ => rfl⟩, r⟩, F⟩
/-- One more file crashes. -/
theorem CkI.step {own K : Nat → Prop} {db vb : Nat} {fsv : Value} {zs0 : Zs} {d : Dk} {fates : List Int} {k : Nat} {v : Value} {w W : World} (h : CkI own K db vb fsv zs0 d fates k v w W) (hk : k < zs0.length) (hK : ∀ i, own i → ¬ K i) (hl : ∀ i, K i → i < w.heap.size) :
    Calls Tryz.prog 44 #[.pointer (some ⟨zs0[k].1.fb, 1, none⟩), v] W fun e w' => ∃ a n c, e = .returned (.slice a n c) ∧ Hid (CkI own K db vb fsv zs0 d fates (k + 1) (.slice a n c) w w') := by
  obtain ⟨⟨zs, M, e1, e2, e3, e4⟩, F⟩ := h
  have hkz : k < zs.length := by omega
  have hz : zs[k] = zs0[k] := by
    have : (zs.drop k)[0]? = (zs0.drop k)[0]? := by rw [e2]
    rw [List.getElem?_drop, List.getElem?_drop, Nat.add_zero, List.getElem?_eq_getElem hkz, List.getElem?_eq_getElem hk] at this
    injection this
  have hsp : zs = zs.take k ++ (zs[k].1, zs[k].2) :: zs.drop (k + 1) := by
    show zs = zs.take k ++ zs[k] :: zs.drop (k + 1)
    rw [List.getElem_cons_drop, List.take_append_drop]
  have hM := M
  rw [hsp] at hM
  have hF := M.at_.fl zs[k] (List.getElem_mem hkz)
  rw [← hz]
  refine (crash15_any W zs[k].1 zs[k].2 hF (fun i => ¬ K i) (fun i hx hk2 => ?_) v _ F).mono ?_
  · rcases M.has i (.inr (.inr (.inr ⟨zs[k], List.getElem_mem hkz, hx⟩))) with y | y
    · exact hK i y hk2
    · have := hl i hk2; omega
  rintro e w' ⟨v', rfl, H⟩
  obtain ⟨H1, H2⟩ := H.out
  have ft : fatesAt ((zs0.take (k + 1)).map Prod.snd) fates = (crF zs[k].2 (fatesAt ((zs0.take k).map Prod.snd) fates)).2 := by
    rw [List.take_succ_eq_append_getElem hk, List.map_append, fatesAt_app, hz]
    rfl
  obtain ⟨g', hg', M2⟩ := hM.upd H2 rfl (by
    have := hM.at_.us
    simp only [List.map_append, List.map_cons, List.sum_append, List.sum_cons] at this
    have := crC_cs zs[k].2 (fatesAt ((zs0.take k).map Prod.snd) fates)
    omega)
  obtain ⟨a, c, e5, _, _, _⟩ := H1
  have hlt : (zs.take k).length = k := by rw [List.length_take]; omega
  refine ⟨a, _, c, by rw [e5], hidb ⟨⟨_, M2, ?_, ?_, ?_, ?_⟩, ?_⟩⟩
  · simp only [List.length_append, List.length_cons, List.length_drop, hlt]; omega
  · rw [show zs.take k ++ (g', (crF zs[k].2 (fatesAt ((zs0.take k).map Prod.snd) fates)).1) :: zs.drop (k + 1) = (zs.take k ++ [(g', (crF zs[k].2 (fatesAt ((zs0.take k).map Prod.snd) fates)).1)]) ++ zs.drop (k + 1) by simp, List.drop_left' (by simp [hlt])]
    have := congrArg (List.drop 1) e2
    rw [List.drop_drop, List.drop_drop] at this
    exact this
  · rw [show zs.take k ++ (g', (crF zs[k].2 (fatesAt ((zs0.take k).map Prod.snd) fates)).1) :: zs.drop (k + 1) = (zs.take k ++ [(g', (crF zs[k].2 (fatesAt ((zs0.take k).map Prod.snd) fates)).1)]) ++ zs.drop (k + 1) by simp, List.take_left' (by simp [hlt]), List.map_append, e3, List.take_succ_eq_append_getElem hk, List.map_append, crFs_app, hz]
    rfl
  · rw [← e4]
    conv => rhs; rw [hsp]
    simp [hg']
  · rw [ft, ← e5]
    exact H.out.1
/-- Behind all: files without a sector are gone. -/
theorem DMid.drops {own : Nat → Prop} {db vb : Nat} {fsv v' : Value} {zs : Zs} {most fuse : Int} {off : Bool} {w W W1 : World} (h : DMid own db vb fsv zs most fuse off w W) (hr : W1.ownsRow 0 110 1 v' (dropZ zs).length (ptrs (dropZ zs))) (hk : Kt (fun i => fsv.ownBlock = some i) W W1) (ho : v'.ownBlock = fsv.ownBlock) : DMid own db vb v' (dropZ zs) most fuse off w (W1.setCell ⟨vb, 1, none⟩ v') := by
  have H := h.at_
  have hmem : ∀ z ∈ dropZ zs, z ∈ zs := fun z hz => (List.mem_filter.1 hz).1
  have hb : ∀ i, i < W.heap.size → fsv.ownBlock ≠ some i → W1.heap[i]? = W.heap[i]? := fun i hi hne => hk.block i hi hne
  refine ⟨⟨?_, ?_, ?_, fun z hz => ?_, H.apart.filter _, fun z hz i hi => ?_, H.o1, by rw [ho]; exact H.o2, by rw [ho]; exact H.o3, H.srt.filter _, Nat.le_trans (List.length_filter_le _ _) H.nf, ?_, H.mo, H.fu⟩, fun i hi => ?_, ?_⟩
  · rw [Below.heap_setCell _ _ _ _ H.o1]
    exact (hb db (heap_ltb H.dbox) H.o2).trans H.dbox
  · exact (heap_setCell_same _ _ _ _ _ _ ((hb vb (heap_ltb H.vbox) H.o3).trans H.vbox)).trans rfl
  · exact row_keep hr fun i hi => Below.heap_setCell _ _ _ _ fun e => H.o3 (by rw [← ho, hi]; exact congrArg some e)
  · refine (H.fl z (hmem z hz)).keep fun i hi => ?_
    obtain ⟨_, a2, a3⟩ := H.own z (hmem z hz) i hi
    rw [Below.heap_setCell _ _ _ _ a2]
    exact hb i ((H.fl z (hmem z hz)).lts i hi) a3
  · rw [ho]; exact H.own z (hmem z hz) i hi
  · refine Nat.le_trans ?_ H.us
    have : ∀ l : Zs, ((dropZ l).map fun z => z.2.cs.length).sum ≤ (l.map fun z => z.2.cs.length).sum := by
      intro l
      induction l with
      | nil => exact Nat.le_refl _
      | cons z l ih =>
        unfold dropZ at *
        rw [List.filter_cons]
        split
        · simp only [List.map_cons, List.sum_cons]; omega
        · simp only [List.map_cons, List.sum_cons]; omega
    exact this zs
  · rcases hi with x | x | x | ⟨z, hz, x⟩
    · exact h.has i (.inl x)
    · exact h.has i (.inr (.inl x))
    · exact h.has i (.inr (.inr (.inl (by rw [← ho]; exact x))))
    · exact h.has i (.inr (.inr (.inr ⟨z, hmem z hz, x⟩)))
  · have k1 : Kt own w W1 := h.kts hk fun i e => .inr (.inr (.inl e))
    exact k1.set fun hi => (h.has vb (.inr (.inl rfl))).resolve_right (by omega)
theorem crD_fs {zs zs0 : Zs} {d : Dk} {fates : List Int} (h2 : zs0.map Prod.snd = d.fs) (h : zs.map Prod.snd = crFs (zs0.map Prod.snd) fates) : (⟨d.most, (dropZ zs).map Prod.snd, -1, false⟩ : Dk) = crD d fates := by
  unfold crD dropZ
  rw [← h2, ← h]
  congr 1
  rw [List.filter_map]
  congr 1
  apply List.filter_congr
  intro z _
  simp
set_option maxRecDepth 100000 in
set_option maxHeartbeats 1000000 in
theorem dcrash_any {K : Nat → Prop} {db : Nat} {d : Dk} {w : World} (h : DkAt K db d w) (va : Option Addr) (vn vc : Nat) (fates : List Int) (hv : FatO (fun i => ¬ K i) w (.slice va vn vc) fates) : Calls Tryz.prog 23 #[.pointer (some ⟨db, 0, none⟩), .slice va vn vc] w fun e w' => e = .returned (.tuple #[]) ∧ Hid (DkEnd K db (crD d fates) w w') := by
  obtain ⟨vb, fsv, zs, h1, h2, h3, h4⟩ := h
  have cd := h1.cd
  have c1 := h1.c1
  have HM := hidb (made15_any db vb w cd)
  obtain ⟨a, c, e, k1, k2⟩ := h1.form
  have hn := h1.nf
  have HNE : Hid (vb ≠ db) := hidb (Ne.symm h1.o1)
  have eF : ∀ args w, (callFunc 46 args).run Tryz.prog w = .ok (.enter 46 args) w := enters_of Tryz.func46 (by kernel_rfl) rfl
  have H0 : Hid (CkI (DOwn db vb fsv zs) K db vb fsv zs d fates 0 (.slice va vn vc) w w) := hidb ⟨⟨zs, DMid.start h1, rfl, rfl, by simp [crFs], rfl⟩, hv⟩
  have HS : Hid (∀ k v W, CkI (DOwn db vb fsv zs) K db vb fsv zs d fates k v w W → (hk : k < zs.length) → (∃ q, a = some ⟨q, 0, none⟩ ∧ W.cell? ⟨q, k, none⟩ = some (.pointer (some ⟨zs[k].1.fb, 0, none⟩))) ∧ Calls Tryz.prog 44 #[.pointer (some ⟨zs[k].1.fb, 1, none⟩), v] W fun e w' => ∃ a n c, e = .returned (.slice a n c) ∧ Hid (CkI (DOwn db vb fsv zs) K db vb fsv zs d fates (k + 1) (.slice a n c) w w')) := hidb fun k v W hI hk => by
    refine ⟨?_, hI.step hk h3 h4⟩
    obtain ⟨zs', M, e1, _, _, e4⟩ := hI.ex
    obtain ⟨q, c', e', h3', _⟩ := M.at_.at_ k (by omega)
    rw [e] at e'
    injection e' with e' _ _
    refine ⟨q, e', ?_⟩
    have : zs'[k].1.fb = zs[k].1.fb := by
      have : (zs'.map fun z => z.1.fb)[k]? = (zs.map fun z => z.1.fb)[k]? := by rw [e4]
      rw [List.getElem?_map, List.getElem?_map, List.getElem?_eq_getElem (by omega), List.getElem?_eq_getElem hk] at this
      simpa using this
    rw [← this]
    exact h3'
  obtain ⟨n, hn'⟩ : ∃ n, n = zs.length := ⟨_, rfl⟩
  have e2n : fsv = .slice a n c := by rw [e, hn']
  have HD : Hid (∀ v W, CkI (DOwn db vb fsv zs) K db vb fsv zs d fates n v w W → W.cell? ⟨db, 0, none⟩ = some (.pointer (some ⟨vb, 0, none⟩)) ∧ W.cell? ⟨vb, 1, none⟩ = some (.slice a n c) ∧ Calls Tryz.prog 45 #[.slice a n c, .func (.func 46) #[] #[]] W fun e w' => ∃ a' n' c' f1 o1, e = .returned (.slice a' n' c') ∧ w'.heap[vb]? = some (.cells #[.int .i64 d.most, .slice a n c, .int .i64 f1, .bool o1] 109 (0, 0)) ∧ w'.cell? ⟨db, 0, none⟩ = some (.pointer (some ⟨vb, 0, none⟩)) ∧ Hid (DkEnd K db (crD d fates) w (((w'.setCell ⟨vb, 1, none⟩ (.slice a' n' c')).setCell ⟨vb, 3, none⟩ (.bool false)).setCell ⟨vb, 2, none⟩ (.int .i64 (-1))))) := hidb fun v W hI => by
    rw [← e2n]
    rw [hn'] at hI
    obtain ⟨zs', M, e1, e2, e3, e4⟩ := hI.ex
    refine ⟨M.at_.cd, M.at_.c1, (delete15_any M.at_).mono ?_⟩
    rintro e w' ⟨a', n', c', rfl, H⟩
    obtain ⟨r1, r2, r3⟩ := H.out
    have bx : w'.heap[vb]? = some (.cells #[.int .i64 d.most, fsv, .int .i64 d.fuse, .bool d.off] 109 (0, 0)) := (r2.block _ (heap_ltb M.at_.vbox) M.at_.o3).trans M.at_.vbox
    have bd : w'.heap[db]? = some (.cells #[.pointer (some ⟨vb, 0, none⟩)] 43 (0, 0)) := (r2.block _ (heap_ltb M.at_.dbox) M.at_.o2).trans M.at_.dbox
    refine ⟨a', n', c', d.fuse, d.off, rfl, bx, Lib.cell_of_heap bd 0, hidb ?_⟩
    have M2 := M.drops r1 r2 r3
    have M3 := M2.box (fuse' := -1) (off' := false) (W' := ((w'.setCell ⟨vb, 1, none⟩ (.slice a' n' c')).setCell ⟨vb, 3, none⟩ (.bool false)).setCell ⟨vb, 2, none⟩ (.int .i64 (-1))) (by
      have q1 := heap_setCell_same _ vb 3 _ _ (.bool false) M2.at_.vbox
      have q2 := heap_setCell_same _ vb 2 _ _ (.int .i64 (-1)) q1
      exact q2.trans rfl) (((Kt.refl (fun i => i = vb) _).set (b := vb) fun _ => rfl).set (b := vb) fun _ => rfl) (by decide)
    have M4 := M3.ends h3 h4
    have et : zs'.take zs.length = zs' := List.take_of_length_le (by omega)
    have et2 : zs.take zs.length = zs := List.take_length
    rw [et, et2] at e3
    rw [crD_fs h2 e3] at M4
    exact M4
  clear h1 h2 h3 h4 hv
  rw [e2n] at c1
  rw [← hn'] at k1 hn
  have HN := hidb hn'
  clear hn' e e2n
  go_enter Tryz.func23, Tryz.ntmps23
  go_wp2_with (first | (go_at_call 43; refine HM.out.mono ?_; clear HM; rintro e w1 ⟨rfl, rfl⟩) | fail)
  go_loopw [1, 17] (fun fv iv wr => ∃ (k : Nat) (fa : Option Addr) (fn fc : Nat), fv = .slice fa fn fc ∧ iv = .int .i64 k ∧ k ≤ n ∧ Hid (CkI (DOwn db vb fsv zs) K db vb fsv zs d fates k (.slice fa fn fc) w1 wr)) (fun _ iv _ => n - (intOf iv).toNat)
  case atStart => exact ⟨0, va, vn, vc, rfl, rfl, Nat.zero_le _, H0⟩
  case round =>
    clear H0 c1 cd
    obtain ⟨k, fa, fn, fc, rfl, rfl, hk, HI⟩ := hrel
    by_cases hlt : k < n
    · have hm : k < zs.length := by rw [← HN.out]; omega
      obtain ⟨⟨q, rfl, hc⟩, HC⟩ := HS.out k _ wr HI.out hm
      have HC := hidb HC
      clear HI
      generalize zs[k].1.fb = fb at *
      go_wp2_with (first | (go_at_call 44; refine HC.out.mono ?_; clear HC; rintro e w2 ⟨a2, n2, c2, rfl, HI2⟩) | fail)
      refine ⟨⟨k + 1, a2, n2, c2, rfl, by go_num, by omega, HI2⟩, by simp [intOf]; omega⟩
    · obtain rfl : k = n := by omega
      obtain ⟨cd, c1, HC⟩ := HD.out _ wr.drew HI.out.drew
      have cd : wr.cell? ⟨db, 0, none⟩ = some (.pointer (some ⟨vb, 0, none⟩)) := cd
      have c1 : wr.cell? ⟨vb, 1, none⟩ = some (.slice a k c) := c1
      have HC := hidb HC
      clear HI HS HD hk hlt
      go_wp2_with fail
      go_region_with (first | (go_at_call 45; refine HC.out.mono ?_; clear HC; rintro e w2 ⟨a', n', c', f1, o1, rfl, bx, cd2, HE⟩; have d1 := Lib.cell_of_heap bx 1; have d2 := Lib.cell_of_heap bx 2; have d3 := Lib.cell_of_heap bx 3; have g1 := Lib.frozen_of_heap bx 1; have g2 := Lib.frozen_of_heap bx 2; have g3 := Lib.frozen_of_heap bx 3; simp at d1 d2 d3) | fail)
      all_goals
        have hne : vb ≠ db := HNE.out
        have bx2 : (w2.setCell ⟨vb, 1, none⟩ (.slice a' n' c')).heap[vb]? = some (.cells #[.int .i64 d.most, .slice a' n' c', .int .i64 f1, .bool o1] 109 (0, 0)) := (heap_setCell_same _ _ _ _ _ _ bx).trans rfl
        have cd3 : (w2.setCell ⟨vb, 1, none⟩ (.slice a' n' c')).cell? ⟨db, 0, none⟩ = some (.pointer (some ⟨vb, 0, none⟩)) := (World.cell?_of_block (Below.heap_setCell _ _ _ _ (Ne.symm hne))).trans cd2
        generalize hw3 : w2.setCell ⟨vb, 1, none⟩ (.slice a' n' c') = w3 at *
        have x2 := Lib.cell_of_heap bx2 2
        have x3 := Lib.cell_of_heap bx2 3
        have y2 := Lib.frozen_of_heap bx2 2
        have y3 := Lib.frozen_of_heap bx2 3
        simp at x2 x3
        clear bx bx2 d1 d2 d3 g1 g2 g3 cd cd2 c1 hw3
        go_wp2_with fail
      all_goals go_region
      all_goals go_end0
      all_goals exact ⟨rfl, hidb HE.out.drew⟩
end Go.Proofs.YthmjejmignangaaGreatDoor
namespace Go.Proofs.YthmjejmignangaaGreatDoor
open Go.RowKit
/-- The disk keeps what it is while other blocks turn. -/
theorem DkAt.turn16 {K R : Nat → Prop} {db : Nat} {d : Dk} {w w' : World} (h : DkAt K db d w) (hz : w.heap.size ≤ w'.heap.size) (hb : ∀ k, k < w.heap.size → ¬ K k → w'.heap[k]? = w.heap[k]?) (hR : ∀ k, R k → K k ∨ (w.heap.size ≤ k ∧ k < w'.heap.size)) : DkAt R db d w' := by
  obtain ⟨vb, fsv, zs, h1, h2, h3, h4⟩ := h
  refine ⟨vb, fsv, zs, h1.keep fun k hk => hb k (h1.lts k hk) (h3 k hk), h2, fun k hk hk2 => ?_, fun k hk => ?_⟩
  · rcases hR k hk2 with x | x
    · exact h3 k hk x
    · have := h1.lts k hk; omega
  · rcases hR k hk with x | x
    · exact Nat.lt_of_lt_of_le (h4 k x) hz
    · exact x.2
theorem DkAt.set16 {K : Nat → Prop} {db : Nat} {d : Dk} {w : World} (h : DkAt K db d w) {b j : Nat} (hb : K b) (v : Value) : DkAt K db d (w.setCell ⟨b, j, none⟩ v) :=
  h.turn16 (by rw [World.size_setCell]; exact Nat.le_refl _) (fun k _ hn => Below.heap_setCell _ _ _ _ (fun e => hn (by subst e; exact hb))) fun k hk => .inl hk
theorem dwrite16 {K : Nat → Prop} {db : Nat} {d : Dk} {w : World} (h : DkAt K db d w) (name : Bt) (at_ : Int) (b : Bt) (hl : name.length ≤ 281474976710656) (hbl : b.length ≤ 9223372036854775807) (hat : -9223372036854775808 ≤ at_ ∧ at_ ≤ 9223372036854775807) :
    Calls Tryz.prog 55 #[.pointer (some ⟨db, 0, none⟩), sv name, .int .i64 at_, sv b] w fun e w' => e = .returned (.int .i64 (writeE d name at_ b)) ∧ Hid (DkEnd K db (writeD d name at_ b) w w') := dwrite_any h name at_ b hl hbl hat (.inl insOk)
/-- A journal's log. -/
def LgAt (lb db : Nat) (file : Bt) (cnt en ep : Int) (wr : Bool) (W : World) : Prop := W.heap[lb]? = some (.cells #[.pointer (some ⟨db, 0, none⟩), sv file, .int .i64 cnt, .int .i64 en, .int .i64 ep, .bool wr] 89 (0, 0))
theorem LgAt.cells {lb db : Nat} {file : Bt} {cnt en ep : Int} {wr : Bool} {W : World} (h : LgAt lb db file cnt en ep wr W) : (W.cell? ⟨lb, 0, none⟩ = some (.pointer (some ⟨db, 0, none⟩)) ∧ W.cell? ⟨lb, 1, none⟩ = some (sv file) ∧ W.cell? ⟨lb, 2, none⟩ = some (.int .i64 cnt) ∧ W.cell? ⟨lb, 3, none⟩ = some (.int .i64 en) ∧ W.cell? ⟨lb, 4, none⟩ = some (.int .i64 ep) ∧ W.cell? ⟨lb, 5, none⟩ = some (.bool wr)) ∧ (∀ k, W.frozen? ⟨lb, k, none⟩ = false) ∧ lb < W.heap.size :=
  ⟨⟨Lib.cell_of_heap h 0, Lib.cell_of_heap h 1, Lib.cell_of_heap h 2, Lib.cell_of_heap h 3, Lib.cell_of_heap h 4, Lib.cell_of_heap h 5⟩, fun k => Lib.frozen_of_heap h k, lt_of_block h⟩
/-- Sectors are written, till one can't be: the disk, the word, how many. -/
def wrAll (d : Dk) (name : Bt) (at_ : Int) : List Bt → Dk × Int × Nat
  | [] => (d, 0, 0)
  | b :: r => if writeE d name at_ b = 0 then ((wrAll (writeD d name at_ b) name (at_ + 1) r).1, (wrAll (writeD d name at_ b) name (at_ + 1) r).2.1, (wrAll (writeD d name at_ b) name (at_ + 1) r).2.2 + 1) else (writeD d name at_ b, writeE d name at_ b, 0)
/-- What turns: blocks that are not kept, and the log's. -/
def JKt (K : Nat → Prop) (lb : Nat) (w w' : World) : Prop := Kt (fun k => ¬ K k ∨ k = lb) w w'
theorem Kt.or16 {S T : Nat → Prop} {w w' : World} (h : Kt S w w') (hT : ∀ k, S k → T k) : Kt T w w' := ⟨h.os, h.tape, h.output, h.size, fun i hi hn => h.block i hi fun e => hn (hT i e)⟩
/-- What write has done. -/
def WrEnd (K : Nat → Prop) (lb db : Nat) (file : Bt) (cnt en ep : Int) (wr : Bool) (d : Dk) (L : List Bt) (w : World) (e : Ending) (w' : World) : Prop := e = .returned (.int .i64 (wrAll d file en L).2.1) ∧ Hid (DkAt K db (wrAll d file en L).1 w' ∧ LgAt lb db file cnt en ep (wr || decide (0 < (wrAll d file en L).2.2)) w' ∧ JKt K lb w w')
set_option maxHeartbeats 4000000 in
set_option maxRecDepth 100000 in
theorem write_any16 (K : Nat → Prop) (lb db : Nat) (file : Bt) (cnt en ep : Int) (wt : Bool) (d : Dk) (L : List Bt) (w : World) (hD : DkAt K db d w) (hG : LgAt lb db file cnt en ep wt w) (hlb : K lb) (hfl : file.length ≤ 281474976710656) (hen : 0 ≤ en ∧ en ≤ 1099511627776) (hLn : L.length ≤ 4096) (hLb : ∀ x ∈ L, x.length ≤ 9223372036854775807)
    (a : Option Addr) (n c : Nat) (hn : n = L.length) {base : Nat} (hO : Own w base 9 (.slice a n c) (svl L)) (hK : ∀ g, (Value.slice a n c).ownBlock = some g → K g ∧ g ≠ lb) :
    Calls Tryz.prog 34 #[.pointer (some ⟨lb, 0, none⟩), .slice a n c] w (WrEnd K lb db file cnt en ep wt d L w) := by
  have HFin := fun e w' h => (h : WrEnd K lb db file cnt en ep wt d L w e w')
  -- the row's cells, while only other blocks turn
  have HA : Hid (∀ W i x, JKt K lb w W → L[i]? = some x → ∃ q, a = some ⟨q, 0, none⟩ ∧ W.cell? ⟨q, i, none⟩ = some (sv x)) := hidb fun W i x hk hx => by
    rcases hO.2 with ⟨e1, e2⟩ | ⟨g, cap', cur, e1, h1, h2, h3, h4, h5, h6⟩
    · have := (List.getElem?_eq_some_iff.1 hx).1
      simp at e2
      rw [e2] at this
      cases this
    · injection e1 with q1 q2 q3
      have hg := hK g (by rw [q1]; rfl)
      have h2' := (hk.block g (lt_of_block h2) (fun e => e.elim (fun e => e hg.1) hg.2)).trans h2
      refine ⟨g, q1, ?_⟩
      rw [Lib.cell_of_heap h2', ← Array.getElem?_toList]
      have h7 : (cur.toList.take ((svl L).length * 1))[i]? = (svl L)[i]? := by rw [h6]
      have hlt := (List.getElem?_eq_some_iff.1 hx).1
      rw [List.getElem?_take_of_lt (by simp; omega)] at h7
      rw [h7, List.getElem?_map, hx]
      rfl
  have HD := hidb hD
  have HG := hidb hG
  have Hlb := hidb hlb
  have Hn := hidb hn
  have HLb := hidb hLb
  have hnn : n ≤ 4096 := by omega
  clear hO hK hD hG hlb hn hLb
  go_enter Tryz.func34, Tryz.ntmps34
  go_upto_region 2 with fail
  go_loopw [10] (fun iv wr => ∃ (i : Nat) (d' : Dk), iv = .int .i64 i ∧ i ≤ n ∧ Hid (DkAt K db d' wr ∧ LgAt lb db file cnt en ep (wt || decide (0 < i)) wr ∧ JKt K lb w wr ∧ wrAll d file en L = ((wrAll d' file (en + i) (L.drop i)).1, (wrAll d' file (en + i) (L.drop i)).2.1, (wrAll d' file (en + i) (L.drop i)).2.2 + i))) (fun iv _ => n - (intOf iv).toNat)
  case atStart => exact ⟨0, d, rfl, Nat.zero_le _, hidb ⟨HD.out, by simpa using HG.out, Kt.refl _ _, by simp⟩⟩
  case round =>
    obtain ⟨i, d', rfl, hi, HI⟩ := hrel
    by_cases hic : i < n
    · have hic2 : (i : Int) < (n : Int) := by omega
      obtain ⟨x, hx⟩ : ∃ x, L[i]? = some x := ⟨L[i]'(by have := Hn.out; omega), List.getElem?_eq_getElem _⟩
      obtain ⟨q, rfl, hcx⟩ := HA.out wr i x HI.out.2.2.1 hx
      have hwe : IntKind.i64.wrap (en + (i : Int)) = en + (i : Int) := by rw [IntKind.wrap_i64]; omega
      obtain ⟨⟨x0, x1, x2, x3, x4, x5⟩, fz, xl⟩ := HI.out.2.1.cells
      have HW := hidb (dwrite16 (w := wr.drew) (HI.out.1.below ⟨rfl, rfl, rfl, Nat.le_refl _, fun _ _ => rfl⟩) file (en + i) x hfl (HLb.out x (List.mem_of_getElem? hx)) (by omega))
      have HSx : Hid (∀ V, Hid (DkEnd K db (writeD d' file (en + i) x) wr.drew V) → V.cell? ⟨lb, 0, none⟩ = some (.pointer (some ⟨db, 0, none⟩)) ∧ V.cell? ⟨lb, 1, none⟩ = some (sv file) ∧ V.cell? ⟨lb, 3, none⟩ = some (.int .i64 en) ∧ lb < V.heap.size) := hidb fun V hE => by
        have hg : LgAt lb db file cnt en ep (wt || decide (0 < i)) V := (hE.out.2.block lb xl (fun e => e Hlb.out)).trans HI.out.2.1
        obtain ⟨⟨y0, y1, y2, y3, y4, y5⟩, -, yl⟩ := hg.cells
        exact ⟨y0, y1, y3, yl⟩
      go_upto_region 4 with fail
      obtain ⟨code, hcode⟩ : ∃ code, code = writeE d' file (en + i) x := ⟨_, rfl⟩
      obtain ⟨d2, hd2⟩ : ∃ d2, d2 = writeD d' file (en + i) x := ⟨_, rfl⟩
      rw [← hcode] at HW
      rw [← hd2] at HW HSx
      have hdrop : L.drop i = x :: L.drop (i + 1) := by
        have := (List.getElem?_eq_some_iff.1 hx)
        obtain ⟨h1, h2⟩ := this
        rw [← h2]
        exact List.drop_eq_getElem_cons h1
      have HNx : Hid (∀ V, Hid (DkEnd K db d2 wr.drew V) → DkAt K db d2 V ∧ LgAt lb db file cnt en ep (wt || decide (0 < i)) V ∧ JKt K lb w V) := hidb fun V hE => ⟨hE.out.1, (hE.out.2.block lb xl (fun e => e Hlb.out)).trans HI.out.2.1, HI.out.2.2.1.trans (show Kt (fun k => ¬ K k) wr V from ⟨hE.out.2.os, hE.out.2.tape, hE.out.2.output, hE.out.2.size, hE.out.2.block⟩) fun k _ hk => .inl hk⟩
      by_cases he : code = 0
      · have hne : (code != 0) = false := by simp [he]
        have hall : wrAll d file en L = ((wrAll d2 file (en + ((i + 1 : Nat) : Int)) (L.drop (i + 1))).1, (wrAll d2 file (en + ((i + 1 : Nat) : Int)) (L.drop (i + 1))).2.1, (wrAll d2 file (en + ((i + 1 : Nat) : Int)) (L.drop (i + 1))).2.2 + (i + 1)) := by
          have h4 := HI.out.2.2.2
          rw [hdrop] at h4
          rw [h4]
          simp only [wrAll]
          rw [← hcode, ← hd2, if_pos he, show en + (i : Int) + 1 = en + ((i + 1 : Nat) : Int) by omega]
          simp only [Prod.mk.injEq, true_and]
          omega
        have HAll := hidb hall
        have HSt : Hid (∀ V, Hid (DkEnd K db d2 wr.drew V) → V.cell? ⟨lb, 5, none⟩ = some (.bool (wt || decide (0 < i))) ∧ V.frozen? ⟨lb, 5, none⟩ = false ∧ Hid (DkAt K db d2 (V.setCell ⟨lb, 5, none⟩ (.bool true)) ∧ LgAt lb db file cnt en ep (wt || decide (0 < i + 1)) (V.setCell ⟨lb, 5, none⟩ (.bool true)) ∧ JKt K lb w (V.setCell ⟨lb, 5, none⟩ (.bool true)) ∧ wrAll d file en L = ((wrAll d2 file (en + ((i + 1 : Nat) : Int)) (L.drop (i + 1))).1, (wrAll d2 file (en + ((i + 1 : Nat) : Int)) (L.drop (i + 1))).2.1, (wrAll d2 file (en + ((i + 1 : Nat) : Int)) (L.drop (i + 1))).2.2 + (i + 1)))) := hidb fun V hE => by
          obtain ⟨g1, g2, g3⟩ := HNx.out V hE
          refine ⟨g2.cells.1.2.2.2.2.2, g2.cells.2.1 5, hidb ⟨g1.set16 Hlb.out _, ?_, g3.set fun _ => .inr rfl, HAll.out⟩⟩
          rw [decide_eq_true (show 0 < i + 1 by omega), Bool.or_true]
          exact (heap_setCell_same _ _ _ _ _ _ g2).trans rfl
        clear hall hdrop he hx hcode hd2 HNx
        go_region_held3 (fun W => W.cell? ⟨lb, 0, none⟩ = some (.pointer (some ⟨db, 0, none⟩)) ∧ W.cell? ⟨lb, 1, none⟩ = some (sv file) ∧ W.cell? ⟨lb, 3, none⟩ = some (.int .i64 en) ∧ lb < W.heap.size) (first | exact HS2.out | go_keep) (first
          | (go_at_call 55; refine HW.out.mono ?_; clear HW; rintro e V ⟨rfl, hE⟩; have HS2 := hidb (HSx.out V hE); obtain ⟨z1, z2, z3⟩ := HSt.out V hE; clear hE HSt)
          | fail)
        go_wp2_with fail
        exact ⟨⟨i + 1, d2, by simp, by omega, z3⟩, by simp [intOf]; omega⟩
      · have hne : (code != 0) = true := by simpa using he
        have hall : wrAll d file en L = (d2, code, 0 + i) := by
          have h4 := HI.out.2.2.2
          rw [hdrop] at h4
          rw [h4]
          simp only [wrAll]
          rw [← hcode, ← hd2, if_neg he]
        have HE : Hid (∀ V, Hid (DkEnd K db d2 wr.drew V) → WrEnd K lb db file cnt en ep wt d L w (.returned (.int .i64 code)) V) := hidb fun V hE => by
          obtain ⟨g1, g2, g3⟩ := HNx.out V hE
          unfold WrEnd
          rw [hall]
          exact ⟨rfl, hidb ⟨g1, by simpa using g2, g3⟩⟩
        clear hall hdrop he hx hcode hd2 HNx
        go_region_held3 (fun W => W.cell? ⟨lb, 0, none⟩ = some (.pointer (some ⟨db, 0, none⟩)) ∧ W.cell? ⟨lb, 1, none⟩ = some (sv file) ∧ W.cell? ⟨lb, 3, none⟩ = some (.int .i64 en) ∧ lb < W.heap.size) (first | exact HS2.out | go_keep) (first
          | (go_at_call 55; refine HW.out.mono ?_; clear HW; rintro e V ⟨rfl, hE⟩; have HS2 := hidb (HSx.out V hE); have HE2 := hidb (HE.out V hE); clear hE HE)
          | fail)
        go_wp2_with fail
        go_ret
        exact HE2.out
    · obtain rfl : i = n := by omega
      have hE : WrEnd K lb db file cnt en ep wt d L w (.returned (.int .i64 0)) wr := by
        obtain ⟨g1, g2, g3, g4⟩ := HI.out
        rw [List.drop_eq_nil_of_le (by have := Hn.out; omega)] at g4
        simp only [wrAll] at g4
        unfold WrEnd
        rw [g4]
        exact ⟨rfl, hidb ⟨g1, by simpa using g2, g3⟩⟩
      have HE := hidb hE
      clear hE
      go_wp2_with fail
      go_ret
      exact HE.out
end Go.Proofs.YthmjejmignangaaGreatDoor
