/- Layer 11: the tree's remove. Layer 11: the tree's calls, told by its pairs; newTree. -/
import Derived.Test.YtcjakgogdbfagaaDoorQM
namespace Go.Proofs.YtcjakgogdbfagaaDoor
open Go.RowKit
theorem delL_none {L : Kvs} {k : Bt} (h : getL L k = none) : delL L k = L := by
  unfold delL
  rw [List.filter_eq_self]
  intro x hx
  induction L with
  | nil => cases hx
  | cons y L ih =>
    obtain ⟨a, b⟩ := y
    unfold getL at h
    split at h
    · cases h
    · rename_i hne
      rcases List.mem_cons.1 hx with rfl | hx
      · simpa using hne
      · exact ih h hx
theorem delL_mid {A B : Kvs} {k v : Bt} (s : SrtL (A ++ (k, v) :: B)) : delL (A ++ (k, v) :: B) k = A ++ B := by
  rw [SrtL, List.pairwise_append, List.pairwise_cons] at s
  unfold delL
  rw [List.filter_append, List.filter_cons]
  have hA : A.filter (fun x => decide (x.1 ≠ k)) = A := List.filter_eq_self.2 fun x hx => by simpa using klt_ne (s.2.2 x hx (k, v) (by simp))
  have hB : B.filter (fun x => decide (x.1 ≠ k)) = B := List.filter_eq_self.2 fun x hx => by simpa using (klt_ne (s.2.1.1 x hx)).symm
  rw [hA, hB]
  simp
theorem srt_del {L : Kvs} (s : SrtL L) (k : Bt) : SrtL (delL L k) := List.Pairwise.sublist List.filter_sublist s
section
variable {n root : Nat} {f f1 : Nat → Nd} {T T' : Tr} {L : Kvs} {key : Bt} {p : Nat}
theorem Good.rem (h : Good (n + 1) root f T L) (hk : (f p).k = key) (r : Rem f f1 T T' p) :
    T'.pl.Nodup ∧ p ∉ T'.pl ∧ (∀ q, q ∈ T'.pl ↔ q ≠ p ∧ 0 < q ∧ q < n + 1) ∧ T'.pl.length + 1 = n ∧ f1 0 = Nd.zero ∧ kvs f1 T'.pl = delL L key ∧ Srt (keys f1 T'.pl) := by
  obtain ⟨A, B, e1, e2⟩ := r.ex
  obtain ⟨n1, n2⟩ := r.nodup h.nd
  have hL : L = kvs f A ++ (key, (f p).v) :: kvs f B := by rw [← h.kv, e1, kvs, List.map_append, List.map_cons, hk]; rfl
  have hkv : kvs f1 T'.pl = delL L key := by
    have hs := h.srt
    rw [hL] at hs
    rw [hL, delL_mid hs, kvs_kv r.kv, e2, kvs, List.map_append]
    rfl
  refine ⟨n1, n2, fun q => ?_, ?_, ?_, hkv, srt_kvs.1 (by rw [hkv]; exact srt_del h.srt key)⟩
  · have hm := h.mem q
    rw [e1, mem_ins, ← e2] at hm
    constructor
    · intro hq
      exact ⟨fun e => n2 (e ▸ hq), hm.1 (.inr hq)⟩
    · rintro ⟨a, b⟩
      exact (hm.2 b).resolve_left a
  · have := h.len
    rw [e1, List.length_append, List.length_cons] at this
    rw [e2, List.length_append]
    omega
  · rw [r.out 0 fun e => h.lk.ne 0 e rfl]; exact h.z
theorem Good.remLast (h : Good (n + 1) root f T L) (hp : n ∈ T.pl) (hk : (f n).k = key) (r : Rem f f1 T T' n) : Good n T'.top (upd f1 n Nd.zero) T' (delL L key) := by
  obtain ⟨a, b, c, d, e, g, _⟩ := h.rem hk r
  have ext : ∀ q ∈ T'.pl, upd f1 n Nd.zero q = f1 q := fun q hq => upd_other _ _ fun x => b (x ▸ hq)
  have hn0 := h.lk.ne n hp
  refine ⟨r.lk.ext ext, rfl, a, fun q => by rw [c]; omega, d, by rw [upd_other _ _ (Ne.symm hn0)]; exact e, ?_, srt_del h.srt key⟩
  rw [← g]
  exact List.map_congr_left fun q hq => by rw [ext q hq]
theorem Good.remMove (h : Good (n + 1) root f T L) (hp : p ∈ T.pl) (hpn : p < n) (hk : (f p).k = key) (r : Rem f f1 T T' p) :
    RPre f1 T' n ∧ Good n (rootL T'.top (T'.hang f1 n none) p) (upd (movF f1 (T'.hang f1 n none) n p) n Nd.zero) (T'.ren n p) (delL L key) := by
  obtain ⟨a, b, c, d, e, g, s⟩ := h.rem hk r
  have hp0 := h.lk.ne p hp
  have hnT : n ∈ T'.pl := (c n).2 ⟨by omega, by omega, by omega⟩
  have hR : RPre f1 T' n := ⟨a, r.lk, by rw [e]; rfl, s, hnT⟩
  refine ⟨hR, ?_⟩
  have hn0 : n ≠ 0 := by omega
  -- what the nodes are then
  obtain ⟨C, hC⟩ : ∃ C, C = T'.hang f1 n none := ⟨_, rfl⟩
  rw [← hC]
  have key2 : Lk (movF f1 C n p) (T'.ren n p) ∧ rootL T'.top C p = (T'.ren n p).top ∧ (∀ q s, C = some (q, s) → q ∈ T'.pl) := by
    by_cases ht : T'.top = n
    · obtain ⟨x, y, eT⟩ := r.lk.form (by rw [ht]; exact hn0)
      rw [ht] at eT
      have eC : C = none := by rw [hC, eT, Tr.hang, if_pos rfl]
      rw [eC, eT]
      rw [eT] at hR b
      exact ⟨mov_top hR b hp0 none (fun q s e => by cases e), by rw [ren_top hn0]; show p = ren n p n; rw [ren_same], fun q s e => by cases e⟩
    · obtain ⟨q, s, x1, x2, x3, x4, x5, x6, x7⟩ := mov_any hp0 hR b none ht
      rw [← hC] at x1
      rw [x1]
      exact ⟨x6, by rw [ren_top hn0, ren_other ht]; rfl, fun q' s' e => by injection e with e; injection e with e _; exact e ▸ x2⟩
  obtain ⟨k1, k2, k3⟩ := key2
  have kvm : ∀ q, (movL f1 C p q).k = (f1 q).k ∧ (movL f1 C p q).v = (f1 q).v := fun q => by
    unfold movL
    cases C with
    | none => exact ⟨rfl, rfl⟩
    | some x => exact (KV.upd (Nd.setLink_kv (f1 x.1) x.2 p)) q
  have hmov : ∀ q ∈ T'.pl, (upd (movF f1 C n p) n Nd.zero (ren n p q)).k = (f1 q).k ∧ (upd (movF f1 C n p) n Nd.zero (ren n p q)).v = (f1 q).v := fun q hq => by
    by_cases x : q = n
    · rw [x, ren_same, upd_other _ _ (by omega), movF_eq, upd_same]
      exact kvm n
    · rw [ren_other x, upd_other _ _ x, movF_eq, upd_other _ _ (show q ≠ p from fun y => b (y ▸ hq))]
      exact kvm q
  have memR : ∀ q, q ∈ (T'.ren n p).pl ↔ 0 < q ∧ q < n := fun q => by
    rw [ren_pl, List.mem_map]
    constructor
    · rintro ⟨x, hx, rfl⟩
      by_cases y : x = n
      · rw [y, ren_same]; omega
      · rw [ren_other y]
        have := (c x).1 hx
        omega
    · intro hq
      by_cases y : q = p
      · exact ⟨n, hnT, by rw [ren_same, y]⟩
      · exact ⟨q, (c q).2 ⟨y, by omega⟩, ren_other (by omega)⟩
  have z0 : upd (movF f1 C n p) n Nd.zero 0 = Nd.zero := by
    rw [upd_other _ _ (Ne.symm hn0), movF_eq, upd_other _ _ (Ne.symm hp0)]
    unfold movL
    cases C with
    | none => exact e
    | some x =>
      have := k3 x.1 x.2 rfl
      show upd f1 x.1 _ 0 = _
      rw [upd_other _ _ (Ne.symm (r.lk.ne _ this))]
      exact e
  refine ⟨k1.ext fun q hq => upd_other _ _ (by have := (memR q).1 hq; omega), k2, ?_, memR, by rw [ren_pl, List.length_map]; exact d, z0, ?_, srt_del h.srt key⟩
  · rw [ren_pl]
    refine List.Pairwise.map _ (S := fun x y => x ≠ y) ?_ (List.Pairwise.imp_of_mem (R := fun x y => x ≠ y) (S := fun x y => x ≠ y ∧ x ∈ T'.pl ∧ y ∈ T'.pl) (fun hx hy hxy => ⟨hxy, hx, hy⟩) a)
    rintro x y ⟨hxy, hx, hy⟩ e
    by_cases x1 : x = n
    · by_cases y1 : y = n
      · exact hxy (x1.trans y1.symm)
      · rw [x1, ren_same, ren_other y1] at e
        exact b (e ▸ hy)
    · by_cases y1 : y = n
      · rw [y1, ren_same, ren_other x1] at e
        exact b (e ▸ hx)
      · rw [ren_other x1, ren_other y1] at e
        exact hxy e
  · rw [ren_pl, kvs, List.map_map, ← g]
    exact List.map_congr_left fun q hq => by
      show ((upd (movF f1 C n p) n Nd.zero (ren n p q)).k, (upd (movF f1 C n p) n Nd.zero (ren n p q)).v) = _
      rw [(hmov q hq).1, (hmov q hq).2]
end
/-- What remove leaves. -/
def RemEnd (tb g : Nat) (L : Kvs) (key : Bt) (w : World) (e : Ending) (w' : World) : Prop := e = .returned (.bool (getL L key).isSome) ∧ Hid (TreeAt tb g (delL L key) w' ∧ Kt (fun i => i = tb ∨ i = g) w w')
theorem remove_none (tb g : Nat) (L : Kvs) (w : World) (key : Bt) (h : TreeAt tb g L w) (hk : getL L key = none) :
    Calls Tryd.prog 37 #[.pointer (some ⟨tb, 0, none⟩), sv key] w (RemEnd tb g L key w) := by
  obtain ⟨n, cap, root, f, T, h1, h2⟩ := h
  have hf : T.find f key = 0 := by
    rcases h2.find key with ⟨a, _⟩ | ⟨_, _, _, _, a⟩
    · exact a
    · rw [hk] at a; cases a
  have HF := hidb (find_any tb g n cap root f T w key h1 h2.lk h2.top h2.hm)
  rw [hf] at HF
  have HE : Hid (∀ m, RemEnd tb g L key w (.returned (.bool false)) (w.drewN m)) := hidb fun m => ⟨by rw [hk]; rfl, hidb ⟨by rw [delL_none hk]; exact ⟨n, cap, root, f, T, h1.drewN m, h2⟩, (Kt.refl _ w).drewN m⟩⟩
  clear h1 h2 hf hk
  go_enter Tryd.func37, Tryd.ntmps37
  go_wp2_with (go_at_call 51; refine HF.out.mono ?_; clear HF; rintro e w1 ⟨rfl, m, rfl⟩)
  go_ret
  exact HE.out m
set_option maxRecDepth 100000 in
set_option maxHeartbeats 1000000 in
theorem remove_some (tb g n cap root : Nat) (f : Nat → Nd) (T : Tr) (L : Kvs) (w : World) (key : Bt) (h1 : TS tb g (n + 1) cap root f w) (h2 : Good (n + 1) root f T L) (p : Nat) (hf : T.find f key = p) (hp0 : p ≠ 0) (hp : p ∈ T.pl) (hk : (f p).k = key) (hg : (getL L key).isSome = true) :
    Calls Tryd.prog 37 #[.pointer (some ⟨tb, 0, none⟩), sv key] w (RemEnd tb g L key w) := by
  have HF := hidb (find_any tb g (n + 1) cap root f T w key h1 h2.lk h2.top h2.hm)
  rw [hf] at HF
  have hpz : ((p : Int) == 0) = false := by simpa using hp0
  have hs : Srt (keys f T.pl) := srt_kvs.1 (by rw [h2.kv]; exact h2.srt)
  have HW : Hid (∀ M, Calls Tryd.prog 55 #[.pointer (some ⟨tb, 0, none⟩), .int .i64 root, .int .i64 p] (w.drewN M) fun e w' => ∃ q : Nat, e = .returned (.int .i64 q) ∧ Hid (∃ f' T', Rem f f' T T' p ∧ T'.top = q ∧ TS tb g (n + 1) cap root f' w' ∧ Kg g w w')) := hidb fun M => by
    have := without_any tb g (n + 1) cap root f (by omega) T p (w.drewN M) (h1.drewN M) ⟨h2.nd, h2.lk, by rw [h2.z]; rfl, hs, hp⟩ h2.hm (by have := h2.len; have := h1.lt; omega)
    rw [← h2.top] at this
    exact this.mono fun e w' ⟨q, e1, H⟩ => ⟨q, e1, by obtain ⟨f', T', a, b, c, d⟩ := H.out; exact hidb ⟨f', T', a, b, c, ((Kg.refl g w).drewN M).trans d⟩⟩
  have c1 := h1.c1
  have HN : Hid (∀ (q : Nat) w8, (∃ f' T', Rem f f' T T' p ∧ T'.top = q ∧ TS tb g (n + 1) cap root f' w8 ∧ Kg g w w8) → w8.cell? ⟨tb, 1, none⟩ = some (.int .i64 root) ∧ w8.frozen? ⟨tb, 1, none⟩ = false ∧
      Calls Tryd.prog 56 #[.pointer (some ⟨tb, 0, none⟩), .int .i64 p] (w8.setCell ⟨tb, 1, none⟩ (.int .i64 q)) fun e w' => e = .returned (.tuple #[]) ∧ Hid (RemEnd tb g L key w (.returned (.bool true)) w')) := hidb fun q w8 ⟨f', T', y1, y2, y3, y4⟩ => by
    subst y2
    have t9 := y3.setRoot T'.top
    have k9 : Kt (fun i => i = tb ∨ i = g) w (w8.setCell ⟨tb, 1, none⟩ (.int .i64 (T'.top : Nat))) := (Kt.grown y4 (.inr rfl)).set fun _ => .inl rfl
    refine ⟨y3.c1, y3.frb 1, ?_⟩
    by_cases e : p = n
    · subst e
      exact (free_last tb g p cap _ f' _ t9).mono fun e w' ⟨x, y, z⟩ => ⟨x, hidb ⟨by rw [hg], hidb ⟨⟨p, cap, _, _, T', y, h2.remLast hp hk y1⟩, k9.trans z fun _ _ x => x⟩⟩⟩
    · have hpn : p < n := by have := h2.hm p hp; omega
      obtain ⟨r1, r2⟩ := h2.remMove hp hpn hk y1
      have rm := (h2.rem hk y1).2.2.1
      exact (free_move tb g n cap _ f' _ p T' t9 hpn r1 rfl (fun q hq => ((rm q).1 hq).2.2)).mono fun e w' ⟨x, y, z⟩ => ⟨x, hidb ⟨by rw [hg], hidb ⟨⟨n, cap, _, _, _, y, r2⟩, k9.trans z fun _ _ x => x⟩⟩⟩
  clear h1 h2 hf hp hk hs
  go_enter Tryd.func37, Tryd.ntmps37
  go_wp2_with (first
    | (go_at_call 51; refine HF.out.mono ?_; clear HF; rintro e w1 ⟨rfl, m, rfl⟩)
    | (go_at_call 55; refine (HW.out _).mono ?_; clear HW; rintro e w8 ⟨q8, rfl, K8⟩; obtain ⟨d1, d2, hN⟩ := HN.out q8 w8 K8.out; replace HN := hidb hN; clear hN)
    | (go_at_call 56; refine HN.out.mono ?_; clear HN; rintro e w9 ⟨rfl, K9⟩)
    | fail)
  go_ret
  exact K9.out
/-- remove of any key. -/
theorem remove_any (tb g : Nat) (L : Kvs) (w : World) (key : Bt) (h : TreeAt tb g L w) :
    Calls Tryd.prog 37 #[.pointer (some ⟨tb, 0, none⟩), sv key] w (RemEnd tb g L key w) := by
  cases hk : getL L key with
  | none => exact remove_none tb g L w key h hk
  | some v =>
    obtain ⟨n, cap, root, f, T, h1, h2⟩ := h
    rcases h2.find key with ⟨_, a⟩ | ⟨a, b, _, d, _⟩
    · rw [hk] at a; cases a
    · obtain ⟨k, rfl⟩ : ∃ k, n = k + 1 := ⟨n - 1, by have := h2.len; omega⟩
      exact remove_some tb g k cap root f T L w key h1 h2 _ rfl a b d (by rw [hk]; rfl)
end Go.Proofs.YtcjakgogdbfagaaDoor
namespace Go.Proofs.YtcjakgogdbfagaaDoor
open Go.RowKit
theorem TreeAt.keep {tb g : Nat} {L : Kvs} {w w' : World} (h : TreeAt tb g L w) (e1 : w'.heap[tb]? = w.heap[tb]?) (e2 : w'.heap[g]? = w.heap[g]?) : TreeAt tb g L w' := by
  obtain ⟨n, cap, root, f, T, h1, h2⟩ := h
  exact ⟨n, cap, root, f, T, h1.keep e1 e2, h2⟩
theorem TreeAt.lts {tb g : Nat} {L : Kvs} {w : World} (h : TreeAt tb g L w) : tb < w.heap.size ∧ g < w.heap.size ∧ tb ≠ g := by
  obtain ⟨n, cap, root, f, T, h1, h2⟩ := h
  exact ⟨h1.ltb, h1.ltg, h1.ne⟩
theorem TreeAt.kt {tb g : Nat} {L : Kvs} {w w' : World} {S : Nat → Prop} (h : TreeAt tb g L w) (k : Kt S w w') (s1 : ¬ S tb) (s2 : ¬ S g) : TreeAt tb g L w' := h.keep (k.block _ h.lts.1 s1) (k.block _ h.lts.2.1 s2)
theorem TreeAt.below {tb g : Nat} {L : Kvs} {w w' : World} (h : TreeAt tb g L w) (k : Below w.heap.size w w') : TreeAt tb g L w' := h.keep (k.block _ h.lts.1) (k.block _ h.lts.2.1)
theorem TreeAt.srt {tb g : Nat} {L : Kvs} {w : World} (h : TreeAt tb g L w) : SrtL L := by
  obtain ⟨n, cap, root, f, T, h1, h2⟩ := h
  exact h2.srt
theorem TreeAt.drewN {tb g : Nat} {L : Kvs} {w : World} (h : TreeAt tb g L w) (M : Nat) : TreeAt tb g L (w.drewN M) := h.keep rfl rfl
theorem has_t (tb g : Nat) (L : Kvs) (w : World) (key : Bt) (h : TreeAt tb g L w) : Calls Tryd.prog 30 #[.pointer (some ⟨tb, 0, none⟩), sv key] w fun e w' => e = .returned (.bool (getL L key).isSome) ∧ ∃ m, w' = w.drewN m := by
  obtain ⟨n, cap, root, f, T, h1, h2⟩ := h
  refine (has_any tb g n cap root f T w key h1 h2.lk h2.top h2.hm).mono fun e w' ⟨x, y⟩ => ⟨?_, y⟩
  rw [x]
  rcases h2.find key with ⟨a, b⟩ | ⟨a, _, _, _, b⟩
  · rw [a, b]; rfl
  · rw [b]; simp [a]
theorem get_t (tb g : Nat) (L : Kvs) (w : World) (key : Bt) (h : TreeAt tb g L w) : Calls Tryd.prog 38 #[.pointer (some ⟨tb, 0, none⟩), sv key] w fun e w' => e = .returned (.tuple #[sv ((getL L key).getD []), .bool (getL L key).isSome]) ∧ ∃ m, w' = w.drewN m := by
  obtain ⟨n, cap, root, f, T, h1, h2⟩ := h
  refine (get_any tb g n cap root f T w key h1 h2.lk h2.top h2.hm (h2.findlt key)).mono fun e w' ⟨x, y⟩ => ⟨?_, y⟩
  rw [x]
  rcases h2.find key with ⟨a, b⟩ | ⟨a, _, _, _, b⟩
  · rw [a, b, h2.z]; rfl
  · rw [b]; simp [a]
theorem next_t (tb g : Nat) (L : Kvs) (w : World) (key : Bt) (h : TreeAt tb g L w) : Calls Tryd.prog 33 #[.pointer (some ⟨tb, 0, none⟩), sv key] w fun e w' => e = .returned (.tuple #[sv ((nextL L key).getD []), .bool (nextL L key).isSome]) ∧ ∃ m, w' = w.drewN m := by
  obtain ⟨n, cap, root, f, T, h1, h2⟩ := h
  have hlt : T.above f key 0 < n := by
    rcases h2.above key with ⟨a, _⟩ | ⟨_, a, _⟩
    · rw [a]; exact h2.pos
    · exact a
  refine (next_any tb g n cap root f T w key h1 h2.lk h2.top h2.hm hlt).mono fun e w' ⟨x, y⟩ => ⟨?_, y⟩
  rw [x]
  rcases h2.above key with ⟨a, b⟩ | ⟨a, _, b⟩
  · rw [a, b, h2.z]; rfl
  · rw [b]; simp [a]
theorem count_t (tb g : Nat) (L : Kvs) (w : World) (h : TreeAt tb g L w) : Calls Tryd.prog 31 #[.pointer (some ⟨tb, 0, none⟩)] w fun e w' => e = .returned (.int .i64 (L.length : Nat)) ∧ w' = w := by
  obtain ⟨n, cap, root, f, T, h1, h2⟩ := h
  have hl : L.length + 1 = n := by rw [← h2.len, ← h2.kv, kvs, List.length_map]
  refine (count_any tb g n cap root f w h1 h2.pos).mono fun e w' ⟨x, y⟩ => ⟨?_, y⟩
  rw [x, ← hl, Nat.add_sub_cancel]
/-- An empty tree. -/
theorem tree_nil {w : World} {tb g cap : Nat} (h1 : w.heap[tb]? = some (.cells #[.slice (some ⟨g, 0, none⟩) 1 cap, .int .i64 0] 57 (0, 0))) (h2 : w.ownsRow 0 88 5 (.slice (some ⟨g, 0, none⟩) 1 cap) 1 (flat (fun _ => Nd.zero) 1)) (hne : tb ≠ g) : TreeAt tb g [] w := by
  obtain ⟨nb, hc⟩ := NB.of h2
  exact ⟨1, cap, 0, fun _ => Nd.zero, .e, ⟨h1, nb, hne, hc, by decide⟩, ⟨trivial, rfl, List.nodup_nil, fun p => by simp [Tr.pl]; omega, rfl, rfl, rfl, List.Pairwise.nil⟩⟩
theorem made_nodes (W : World) : ∃ W2, (Instr.makeSlice 55 (.int .i64 1) (.int .i64 1)).run Tryd.prog W = .ok (.slice (some ⟨W.heap.size, 0, none⟩) 1 1) W2 ∧ W2.ownsRow 0 88 5 (.slice (some ⟨W.heap.size, 0, none⟩) 1 1) 1 (flat (fun _ => Nd.zero) 1) ∧ Below W.heap.size W W2 ∧ W.heap.size < W2.heap.size := by
  obtain ⟨i0, hi, hz0, hz1, hz2⟩ := info_parts (show (Tryd.prog.info? 88).map (fun i => (i.zero, i.size, i.bytes)) = some (some (.agg #[.string ⟨#[]⟩, .string ⟨#[]⟩, .int .i64 0, .int .i64 0, .int .i64 0]), 5, 56) by kernel_rfl)
  obtain ⟨W2, h1, h2, h3⟩ := run_make_full (w := W) W.heap.size 55 88 i0 _ 5 Tryd.underlying55 hi hz0 hz1 .i64 .i64 1 (by rw [hz2]; decide) (by decide) (Nat.le_refl _)
  refine ⟨W2, h1, ?_, (Below.refl _ W).grown h3 (Nat.le_refl _) (fun k hk => by cases hk), ?_⟩
  · refine ⟨rfl, ?_⟩
    rcases h2.2 with ⟨h, _⟩ | ⟨g, cap, cur, hv, _, r1, r2, r3, r4, r5⟩
    · cases h
    · exact .inr ⟨g, cap, cur, hv, Nat.zero_le _, r1, r2, r3, r4, r5.trans (by kernel_rfl)⟩
  · rcases h2.2 with ⟨h, _⟩ | ⟨g, cap, cur, hv, _, hg, _⟩
    · cases h
    · injection hv with e1
      injection e1 with e1
      injection e1 with e1
      rw [e1]
      exact heap_ltb hg
set_option maxRecDepth 100000 in
theorem newTree_any (w : World) : Calls Tryd.prog 7 #[] w fun e w' => ∃ tb, e = .returned (.pointer (some ⟨tb, 0, none⟩)) ∧ Hid (∃ g, TreeAt tb g [] w' ∧ w.heap.size ≤ tb ∧ w.heap.size ≤ g ∧ Below w.heap.size w w') := by
  obtain ⟨W2, h1, h2, h3, h4⟩ := made_nodes w
  have HE : Hid (∃ g, TreeAt W2.heap.size g [] (W2.alloc (.cells #[.slice (some ⟨w.heap.size, 0, none⟩) 1 1, .int .i64 0] 57)) ∧ w.heap.size ≤ W2.heap.size ∧ w.heap.size ≤ g ∧ Below w.heap.size w (W2.alloc (.cells #[.slice (some ⟨w.heap.size, 0, none⟩) 1 1, .int .i64 0] 57))) := hidb ⟨w.heap.size, tree_nil (heap_alloc_new W2 _) (h2.alloc _) (by omega), by omega, Nat.le_refl _, h3.alloc (by omega) _⟩
  clear h2 h3 h4
  go_enter Tryd.func7, Tryd.ntmps7
  go_wp2_with fail
  go_ret
  exact ⟨_, rfl, HE⟩
end Go.Proofs.YtcjakgogdbfagaaDoor
