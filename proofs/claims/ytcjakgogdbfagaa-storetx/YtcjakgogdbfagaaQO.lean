/- Layer 11: the tree's remove. Layer 11: the tree's calls, told by its pairs; newTree. A region that draws its order, by what each of its operations leaves: whatever order is drawn. -/
import Derived.Test.YtcjakgogdbfagaaQM
import Derived.Test.YtcjakgogdbfagaaPlain
import Derived.Orders
namespace Go.Proofs.Ytcjakgogdbfagaa
open Go.RowKit
theorem delL_none {L : Kvs} {k : Bt} (h : getL L k = none) : delL L k = L := by
  unfold delL
  rw [List.filter_eq_self]
  intro x hx
  induction L with
  | nil => cases hx
  | cons y L ih =>
    obtain ⟨a, b⟩ := y
    unfold getL at h
    split at h
    · cases h
    · rename_i hne
      rcases List.mem_cons.1 hx with rfl | hx
      · simpa using hne
      · exact ih h hx
theorem delL_mid {A B : Kvs} {k v : Bt} (s : SrtL (A ++ (k, v) :: B)) : delL (A ++ (k, v) :: B) k = A ++ B := by
  rw [SrtL, List.pairwise_append, List.pairwise_cons] at s
  unfold delL
  rw [List.filter_append, List.filter_cons]
  have hA : A.filter (fun x => decide (x.1 ≠ k)) = A := List.filter_eq_self.2 fun x hx => by simpa using klt_ne (s.2.2 x hx (k, v) (by simp))
  have hB : B.filter (fun x => decide (x.1 ≠ k)) = B := List.filter_eq_self.2 fun x hx => by simpa using (klt_ne (s.2.1.1 x hx)).symm
  rw [hA, hB]
  simp
theorem srt_del {L : Kvs} (s : SrtL L) (k : Bt) : SrtL (delL L k) := List.Pairwise.sublist List.filter_sublist s
section
variable {n root : Nat} {f f1 : Nat → Nd} {T T' : Tr} {L : Kvs} {key : Bt} {p : Nat}
theorem Good.rem (h : Good (n + 1) root f T L) (hk : (f p).k = key) (r : Rem f f1 T T' p) :
    T'.pl.Nodup ∧ p ∉ T'.pl ∧ (∀ q, q ∈ T'.pl ↔ q ≠ p ∧ 0 < q ∧ q < n + 1) ∧ T'.pl.length + 1 = n ∧ f1 0 = Nd.zero ∧ kvs f1 T'.pl = delL L key ∧ Srt (keys f1 T'.pl) := by
  obtain ⟨A, B, e1, e2⟩ := r.ex
  obtain ⟨n1, n2⟩ := r.nodup h.nd
  have hL : L = kvs f A ++ (key, (f p).v) :: kvs f B := by rw [← h.kv, e1, kvs, List.map_append, List.map_cons, hk]; rfl
  have hkv : kvs f1 T'.pl = delL L key := by
    have hs := h.srt
    rw [hL] at hs
    rw [hL, delL_mid hs, kvs_kv r.kv, e2, kvs, List.map_append]
    rfl
  refine ⟨n1, n2, fun q => ?_, ?_, ?_, hkv, srt_kvs.1 (by rw [hkv]; exact srt_del h.srt key)⟩
  · have hm := h.mem q
    rw [e1, mem_ins, ← e2] at hm
    constructor
    · intro hq
      exact ⟨fun e => n2 (e ▸ hq), hm.1 (.inr hq)⟩
    · rintro ⟨a, b⟩
      exact (hm.2 b).resolve_left a
  · have := h.len
    rw [e1, List.length_append, List.length_cons] at this
    rw [e2, List.length_append]
    omega
  · rw [r.out 0 fun e => h.lk.ne 0 e rfl]; exact h.z
theorem Good.remLast (h : Good (n + 1) root f T L) (hp : n ∈ T.pl) (hk : (f n).k = key) (r : Rem f f1 T T' n) : Good n T'.top (upd f1 n Nd.zero) T' (delL L key) := by
  obtain ⟨a, b, c, d, e, g, _⟩ := h.rem hk r
  have ext : ∀ q ∈ T'.pl, upd f1 n Nd.zero q = f1 q := fun q hq => upd_other _ _ fun x => b (x ▸ hq)
  have hn0 := h.lk.ne n hp
  refine ⟨r.lk.ext ext, rfl, a, fun q => by rw [c]; omega, d, by rw [upd_other _ _ (Ne.symm hn0)]; exact e, ?_, srt_del h.srt key⟩
  rw [← g]
  exact List.map_congr_left fun q hq => by rw [ext q hq]
theorem Good.remMove (h : Good (n + 1) root f T L) (hp : p ∈ T.pl) (hpn : p < n) (hk : (f p).k = key) (r : Rem f f1 T T' p) :
    RPre f1 T' n ∧ Good n (rootL T'.top (T'.hang f1 n none) p) (upd (movF f1 (T'.hang f1 n none) n p) n Nd.zero) (T'.ren n p) (delL L key) := by
  obtain ⟨a, b, c, d, e, g, s⟩ := h.rem hk r
  have hp0 := h.lk.ne p hp
  have hnT : n ∈ T'.pl := (c n).2 ⟨by omega, by omega, by omega⟩
  have hR : RPre f1 T' n := ⟨a, r.lk, by rw [e]; rfl, s, hnT⟩
  refine ⟨hR, ?_⟩
  have hn0 : n ≠ 0 := by omega
  -- what the nodes are then
  obtain ⟨C, hC⟩ : ∃ C, C = T'.hang f1 n none := ⟨_, rfl⟩
  rw [← hC]
  have key2 : Lk (movF f1 C n p) (T'.ren n p) ∧ rootL T'.top C p = (T'.ren n p).top ∧ (∀ q s, C = some (q, s) → q ∈ T'.pl) := by
    by_cases ht : T'.top = n
    · obtain ⟨x, y, eT⟩ := r.lk.form (by rw [ht]; exact hn0)
      rw [ht] at eT
      have eC : C = none := by rw [hC, eT, Tr.hang, if_pos rfl]
      rw [eC, eT]
      rw [eT] at hR b
      exact ⟨mov_top hR b hp0 none (fun q s e => by cases e), by rw [ren_top hn0]; show p = ren n p n; rw [ren_same], fun q s e => by cases e⟩
    · obtain ⟨q, s, x1, x2, x3, x4, x5, x6, x7⟩ := mov_any hp0 hR b none ht
      rw [← hC] at x1
      rw [x1]
      exact ⟨x6, by rw [ren_top hn0, ren_other ht]; rfl, fun q' s' e => by injection e with e; injection e with e _; exact e ▸ x2⟩
  obtain ⟨k1, k2, k3⟩ := key2
  have kvm : ∀ q, (movL f1 C p q).k = (f1 q).k ∧ (movL f1 C p q).v = (f1 q).v := fun q => by
    unfold movL
    cases C with
    | none => exact ⟨rfl, rfl⟩
    | some x => exact (KV.upd (Nd.setLink_kv (f1 x.1) x.2 p)) q
  have hmov : ∀ q ∈ T'.pl, (upd (movF f1 C n p) n Nd.zero (ren n p q)).k = (f1 q).k ∧ (upd (movF f1 C n p) n Nd.zero (ren n p q)).v = (f1 q).v := fun q hq => by
    by_cases x : q = n
    · rw [x, ren_same, upd_other _ _ (by omega), movF_eq, upd_same]
      exact kvm n
    · rw [ren_other x, upd_other _ _ x, movF_eq, upd_other _ _ (show q ≠ p from fun y => b (y ▸ hq))]
      exact kvm q
  have memR : ∀ q, q ∈ (T'.ren n p).pl ↔ 0 < q ∧ q < n := fun q => by
    rw [ren_pl, List.mem_map]
    constructor
    · rintro ⟨x, hx, rfl⟩
      by_cases y : x = n
      · rw [y, ren_same]; omega
      · rw [ren_other y]
        have := (c x).1 hx
        omega
    · intro hq
      by_cases y : q = p
      · exact ⟨n, hnT, by rw [ren_same, y]⟩
      · exact ⟨q, (c q).2 ⟨y, by omega⟩, ren_other (by omega)⟩
  have z0 : upd (movF f1 C n p) n Nd.zero 0 = Nd.zero := by
    rw [upd_other _ _ (Ne.symm hn0), movF_eq, upd_other _ _ (Ne.symm hp0)]
    unfold movL
    cases C with
    | none => exact e
    | some x =>
      have := k3 x.1 x.2 rfl
      show upd f1 x.1 _ 0 = _
      rw [upd_other _ _ (Ne.symm (r.lk.ne _ this))]
      exact e
  refine ⟨k1.ext fun q hq => upd_other _ _ (by have := (memR q).1 hq; omega), k2, ?_, memR, by rw [ren_pl, List.length_map]; exact d, z0, ?_, srt_del h.srt key⟩
  · rw [ren_pl]
    refine List.Pairwise.map _ (S := fun x y => x ≠ y) ?_ (List.Pairwise.imp_of_mem (R := fun x y => x ≠ y) (S := fun x y => x ≠ y ∧ x ∈ T'.pl ∧ y ∈ T'.pl) (fun hx hy hxy => ⟨hxy, hx, hy⟩) a)
    rintro x y ⟨hxy, hx, hy⟩ e
    by_cases x1 : x = n
    · by_cases y1 : y = n
      · exact hxy (x1.trans y1.symm)
      · rw [x1, ren_same, ren_other y1] at e
        exact b (e ▸ hy)
    · by_cases y1 : y = n
      · rw [y1, ren_same, ren_other x1] at e
        exact b (e ▸ hx)
      · rw [ren_other x1, ren_other y1] at e
        exact hxy e
  · rw [ren_pl, kvs, List.map_map, ← g]
    exact List.map_congr_left fun q hq => by
      show ((upd (movF f1 C n p) n Nd.zero (ren n p q)).k, (upd (movF f1 C n p) n Nd.zero (ren n p q)).v) = _
      rw [(hmov q hq).1, (hmov q hq).2]
end
/-- What remove leaves. -/
def RemEnd (tb g : Nat) (L : Kvs) (key : Bt) (w : World) (e : Ending) (w' : World) : Prop := e = .returned (.bool (getL L key).isSome) ∧ Hid (TreeAt tb g (delL L key) w' ∧ Kt (fun i => i = tb ∨ i = g) w w')
theorem remove_none (tb g : Nat) (L : Kvs) (w : World) (key : Bt) (h : TreeAt tb g L w) (hk : getL L key = none) :
    Calls Try.prog 35 #[.pointer (some ⟨tb, 0, none⟩), sv key] w (RemEnd tb g L key w) := by
  obtain ⟨n, cap, root, f, T, h1, h2⟩ := h
  have hf : T.find f key = 0 := by
    rcases h2.find key with ⟨a, _⟩ | ⟨_, _, _, _, a⟩
    · exact a
    · rw [hk] at a; cases a
  have HF := hidb (find_any tb g n cap root f T w key h1 h2.lk h2.top h2.hm)
  rw [hf] at HF
  have HE : Hid (∀ m, RemEnd tb g L key w (.returned (.bool false)) (w.drewN m)) := hidb fun m => ⟨by rw [hk]; rfl, hidb ⟨by rw [delL_none hk]; exact ⟨n, cap, root, f, T, h1.drewN m, h2⟩, (Kt.refl _ w).drewN m⟩⟩
  clear h1 h2 hf hk
  go_enter Try.func35, Try.ntmps35
  go_wp2_with (go_at_call 54; refine HF.out.mono ?_; clear HF; rintro e w1 ⟨rfl, m, rfl⟩)
  go_ret
  exact HE.out m
set_option maxRecDepth 100000 in
set_option maxHeartbeats 1000000 in
theorem remove_some (tb g n cap root : Nat) (f : Nat → Nd) (T : Tr) (L : Kvs) (w : World) (key : Bt) (h1 : TS tb g (n + 1) cap root f w) (h2 : Good (n + 1) root f T L) (p : Nat) (hf : T.find f key = p) (hp0 : p ≠ 0) (hp : p ∈ T.pl) (hk : (f p).k = key) (hg : (getL L key).isSome = true) :
    Calls Try.prog 35 #[.pointer (some ⟨tb, 0, none⟩), sv key] w (RemEnd tb g L key w) := by
  have HF := hidb (find_any tb g (n + 1) cap root f T w key h1 h2.lk h2.top h2.hm)
  rw [hf] at HF
  have hpz : ((p : Int) == 0) = false := by simpa using hp0
  have hs : Srt (keys f T.pl) := srt_kvs.1 (by rw [h2.kv]; exact h2.srt)
  have HW : Hid (∀ M, Calls Try.prog 55 #[.pointer (some ⟨tb, 0, none⟩), .int .i64 root, .int .i64 p] (w.drewN M) fun e w' => ∃ q : Nat, e = .returned (.int .i64 q) ∧ Hid (∃ f' T', Rem f f' T T' p ∧ T'.top = q ∧ TS tb g (n + 1) cap root f' w' ∧ Kg g w w')) := hidb fun M => by
    have := without_any tb g (n + 1) cap root f (by omega) T p (w.drewN M) (h1.drewN M) ⟨h2.nd, h2.lk, by rw [h2.z]; rfl, hs, hp⟩ h2.hm (by have := h2.len; have := h1.lt; omega)
    rw [← h2.top] at this
    exact this.mono fun e w' ⟨q, e1, H⟩ => ⟨q, e1, by obtain ⟨f', T', a, b, c, d⟩ := H.out; exact hidb ⟨f', T', a, b, c, ((Kg.refl g w).drewN M).trans d⟩⟩
  have c1 := h1.c1
  have HN : Hid (∀ (q : Nat) w8, (∃ f' T', Rem f f' T T' p ∧ T'.top = q ∧ TS tb g (n + 1) cap root f' w8 ∧ Kg g w w8) → w8.cell? ⟨tb, 1, none⟩ = some (.int .i64 root) ∧ w8.frozen? ⟨tb, 1, none⟩ = false ∧
      Calls Try.prog 56 #[.pointer (some ⟨tb, 0, none⟩), .int .i64 p] (w8.setCell ⟨tb, 1, none⟩ (.int .i64 q)) fun e w' => e = .returned (.tuple #[]) ∧ Hid (RemEnd tb g L key w (.returned (.bool true)) w')) := hidb fun q w8 ⟨f', T', y1, y2, y3, y4⟩ => by
    subst y2
    have t9 := y3.setRoot T'.top
    have k9 : Kt (fun i => i = tb ∨ i = g) w (w8.setCell ⟨tb, 1, none⟩ (.int .i64 (T'.top : Nat))) := (Kt.grown y4 (.inr rfl)).set fun _ => .inl rfl
    refine ⟨y3.c1, y3.frb 1, ?_⟩
    by_cases e : p = n
    · subst e
      exact (free_last tb g p cap _ f' _ t9).mono fun e w' ⟨x, y, z⟩ => ⟨x, hidb ⟨by rw [hg], hidb ⟨⟨p, cap, _, _, T', y, h2.remLast hp hk y1⟩, k9.trans z fun _ _ x => x⟩⟩⟩
    · have hpn : p < n := by have := h2.hm p hp; omega
      obtain ⟨r1, r2⟩ := h2.remMove hp hpn hk y1
      have rm := (h2.rem hk y1).2.2.1
      exact (free_move tb g n cap _ f' _ p T' t9 hpn r1 rfl (fun q hq => ((rm q).1 hq).2.2)).mono fun e w' ⟨x, y, z⟩ => ⟨x, hidb ⟨by rw [hg], hidb ⟨⟨n, cap, _, _, _, y, r2⟩, k9.trans z fun _ _ x => x⟩⟩⟩
  clear h1 h2 hf hp hk hs
  go_enter Try.func35, Try.ntmps35
  go_wp2_with (first
    | (go_at_call 54; refine HF.out.mono ?_; clear HF; rintro e w1 ⟨rfl, m, rfl⟩)
    | (go_at_call 55; refine (HW.out _).mono ?_; clear HW; rintro e w8 ⟨q8, rfl, K8⟩; obtain ⟨d1, d2, hN⟩ := HN.out q8 w8 K8.out; replace HN := hidb hN; clear hN)
    | (go_at_call 56; refine HN.out.mono ?_; clear HN; rintro e w9 ⟨rfl, K9⟩)
    | fail)
  go_ret
  exact K9.out
/-- remove of any key. -/
theorem remove_any (tb g : Nat) (L : Kvs) (w : World) (key : Bt) (h : TreeAt tb g L w) :
    Calls Try.prog 35 #[.pointer (some ⟨tb, 0, none⟩), sv key] w (RemEnd tb g L key w) := by
  cases hk : getL L key with
  | none => exact remove_none tb g L w key h hk
  | some v =>
    obtain ⟨n, cap, root, f, T, h1, h2⟩ := h
    rcases h2.find key with ⟨_, a⟩ | ⟨a, b, _, d, _⟩
    · rw [hk] at a; cases a
    · obtain ⟨k, rfl⟩ : ∃ k, n = k + 1 := ⟨n - 1, by have := h2.len; omega⟩
      exact remove_some tb g k cap root f T L w key h1 h2 _ rfl a b d (by rw [hk]; rfl)
end Go.Proofs.Ytcjakgogdbfagaa
namespace Go.Proofs.Ytcjakgogdbfagaa
open Go.RowKit
theorem TreeAt.keep {tb g : Nat} {L : Kvs} {w w' : World} (h : TreeAt tb g L w) (e1 : w'.heap[tb]? = w.heap[tb]?) (e2 : w'.heap[g]? = w.heap[g]?) : TreeAt tb g L w' := by
  obtain ⟨n, cap, root, f, T, h1, h2⟩ := h
  exact ⟨n, cap, root, f, T, h1.keep e1 e2, h2⟩
theorem TreeAt.lts {tb g : Nat} {L : Kvs} {w : World} (h : TreeAt tb g L w) : tb < w.heap.size ∧ g < w.heap.size ∧ tb ≠ g := by
  obtain ⟨n, cap, root, f, T, h1, h2⟩ := h
  exact ⟨h1.ltb, h1.ltg, h1.ne⟩
theorem TreeAt.kt {tb g : Nat} {L : Kvs} {w w' : World} {S : Nat → Prop} (h : TreeAt tb g L w) (k : Kt S w w') (s1 : ¬ S tb) (s2 : ¬ S g) : TreeAt tb g L w' := h.keep (k.block _ h.lts.1 s1) (k.block _ h.lts.2.1 s2)
theorem TreeAt.below {tb g : Nat} {L : Kvs} {w w' : World} (h : TreeAt tb g L w) (k : Below w.heap.size w w') : TreeAt tb g L w' := h.keep (k.block _ h.lts.1) (k.block _ h.lts.2.1)
theorem TreeAt.srt {tb g : Nat} {L : Kvs} {w : World} (h : TreeAt tb g L w) : SrtL L := by
  obtain ⟨n, cap, root, f, T, h1, h2⟩ := h
  exact h2.srt
theorem TreeAt.drewN {tb g : Nat} {L : Kvs} {w : World} (h : TreeAt tb g L w) (M : Nat) : TreeAt tb g L (w.drewN M) := h.keep rfl rfl
theorem has_t (tb g : Nat) (L : Kvs) (w : World) (key : Bt) (h : TreeAt tb g L w) : Calls Try.prog 39 #[.pointer (some ⟨tb, 0, none⟩), sv key] w fun e w' => e = .returned (.bool (getL L key).isSome) ∧ ∃ m, w' = w.drewN m := by
  obtain ⟨n, cap, root, f, T, h1, h2⟩ := h
  refine (has_any tb g n cap root f T w key h1 h2.lk h2.top h2.hm).mono fun e w' ⟨x, y⟩ => ⟨?_, y⟩
  rw [x]
  rcases h2.find key with ⟨a, b⟩ | ⟨a, _, _, _, b⟩
  · rw [a, b]; rfl
  · rw [b]; simp [a]
theorem get_t (tb g : Nat) (L : Kvs) (w : World) (key : Bt) (h : TreeAt tb g L w) : Calls Try.prog 40 #[.pointer (some ⟨tb, 0, none⟩), sv key] w fun e w' => e = .returned (.tuple #[sv ((getL L key).getD []), .bool (getL L key).isSome]) ∧ ∃ m, w' = w.drewN m := by
  obtain ⟨n, cap, root, f, T, h1, h2⟩ := h
  refine (get_any tb g n cap root f T w key h1 h2.lk h2.top h2.hm (h2.findlt key)).mono fun e w' ⟨x, y⟩ => ⟨?_, y⟩
  rw [x]
  rcases h2.find key with ⟨a, b⟩ | ⟨a, _, _, _, b⟩
  · rw [a, b, h2.z]; rfl
  · rw [b]; simp [a]
theorem next_t (tb g : Nat) (L : Kvs) (w : World) (key : Bt) (h : TreeAt tb g L w) : Calls Try.prog 41 #[.pointer (some ⟨tb, 0, none⟩), sv key] w fun e w' => e = .returned (.tuple #[sv ((nextL L key).getD []), .bool (nextL L key).isSome]) ∧ ∃ m, w' = w.drewN m := by
  obtain ⟨n, cap, root, f, T, h1, h2⟩ := h
  have hlt : T.above f key 0 < n := by
    rcases h2.above key with ⟨a, _⟩ | ⟨_, a, _⟩
    · rw [a]; exact h2.pos
    · exact a
  refine (next_any tb g n cap root f T w key h1 h2.lk h2.top h2.hm hlt).mono fun e w' ⟨x, y⟩ => ⟨?_, y⟩
  rw [x]
  rcases h2.above key with ⟨a, b⟩ | ⟨a, _, b⟩
  · rw [a, b, h2.z]; rfl
  · rw [b]; simp [a]
theorem count_t (tb g : Nat) (L : Kvs) (w : World) (h : TreeAt tb g L w) : Calls Try.prog 34 #[.pointer (some ⟨tb, 0, none⟩)] w fun e w' => e = .returned (.int .i64 (L.length : Nat)) ∧ w' = w := by
  obtain ⟨n, cap, root, f, T, h1, h2⟩ := h
  have hl : L.length + 1 = n := by rw [← h2.len, ← h2.kv, kvs, List.length_map]
  refine (count_any tb g n cap root f w h1 h2.pos).mono fun e w' ⟨x, y⟩ => ⟨?_, y⟩
  rw [x, ← hl, Nat.add_sub_cancel]
/-- An empty tree. -/
theorem tree_nil {w : World} {tb g cap : Nat} (h1 : w.heap[tb]? = some (.cells #[.slice (some ⟨g, 0, none⟩) 1 cap, .int .i64 0] 90 (0, 0))) (h2 : w.ownsRow 0 96 5 (.slice (some ⟨g, 0, none⟩) 1 cap) 1 (flat (fun _ => Nd.zero) 1)) (hne : tb ≠ g) : TreeAt tb g [] w := by
  obtain ⟨nb, hc⟩ := NB.of h2
  exact ⟨1, cap, 0, fun _ => Nd.zero, .e, ⟨h1, nb, hne, hc, by decide⟩, ⟨trivial, rfl, List.nodup_nil, fun p => by simp [Tr.pl]; omega, rfl, rfl, rfl, List.Pairwise.nil⟩⟩
theorem made_nodes (W : World) : ∃ W2, (Instr.makeSlice 88 (.int .i64 1) (.int .i64 1)).run Try.prog W = .ok (.slice (some ⟨W.heap.size, 0, none⟩) 1 1) W2 ∧ W2.ownsRow 0 96 5 (.slice (some ⟨W.heap.size, 0, none⟩) 1 1) 1 (flat (fun _ => Nd.zero) 1) ∧ Below W.heap.size W W2 ∧ W.heap.size < W2.heap.size := by
  obtain ⟨i0, hi, hz0, hz1, hz2⟩ := info_parts (show (Try.prog.info? 96).map (fun i => (i.zero, i.size, i.bytes)) = some (some (.agg #[.string ⟨#[]⟩, .string ⟨#[]⟩, .int .i64 0, .int .i64 0, .int .i64 0]), 5, 56) by kernel_rfl)
  obtain ⟨W2, h1, h2, h3⟩ := run_make_full (w := W) W.heap.size 88 96 i0 _ 5 Try.underlying88 hi hz0 hz1 .i64 .i64 1 (by rw [hz2]; decide) (by decide) (Nat.le_refl _)
  refine ⟨W2, h1, ?_, (Below.refl _ W).grown h3 (Nat.le_refl _) (fun k hk => by cases hk), ?_⟩
  · refine ⟨rfl, ?_⟩
    rcases h2.2 with ⟨h, _⟩ | ⟨g, cap, cur, hv, _, r1, r2, r3, r4, r5⟩
    · cases h
    · exact .inr ⟨g, cap, cur, hv, Nat.zero_le _, r1, r2, r3, r4, r5.trans (by kernel_rfl)⟩
  · rcases h2.2 with ⟨h, _⟩ | ⟨g, cap, cur, hv, _, hg, _⟩
    · cases h
    · injection hv with e1
      injection e1 with e1
      injection e1 with e1
      rw [e1]
      exact heap_ltb hg
set_option maxRecDepth 100000 in
theorem newTree_any (w : World) : Calls Try.prog 53 #[] w fun e w' => ∃ tb, e = .returned (.pointer (some ⟨tb, 0, none⟩)) ∧ Hid (∃ g, TreeAt tb g [] w' ∧ w.heap.size ≤ tb ∧ w.heap.size ≤ g ∧ Below w.heap.size w w') := by
  obtain ⟨W2, h1, h2, h3, h4⟩ := made_nodes w
  have HE : Hid (∃ g, TreeAt W2.heap.size g [] (W2.alloc (.cells #[.slice (some ⟨w.heap.size, 0, none⟩) 1 1, .int .i64 0] 90)) ∧ w.heap.size ≤ W2.heap.size ∧ w.heap.size ≤ g ∧ Below w.heap.size w (W2.alloc (.cells #[.slice (some ⟨w.heap.size, 0, none⟩) 1 1, .int .i64 0] 90))) := hidb ⟨w.heap.size, tree_nil (heap_alloc_new W2 _) (h2.alloc _) (by omega), by omega, Nat.le_refl _, h3.alloc (by omega) _⟩
  clear h2 h3 h4
  go_enter Try.func53, Try.ntmps53
  go_wp2_with fail
  go_ret
  exact ⟨_, rfl, HE⟩
end Go.Proofs.Ytcjakgogdbfagaa
namespace Go.Proofs.Ytcjakgogdbfagaa
open Go.RowKit
section
variable {P : Program} {ops : Array Oper} {Q : Exit → Act → World → Prop} {md : Region.Mode}
/-- How many have not come up. -/
def leftIn (n : Nat) (listed : Array Bool) : Nat := ((List.range n).filter fun i => !listed.getD i true).length
theorem filter_less {α : Type} {p q : α → Bool} : ∀ (l : List α), (∀ x ∈ l, p x = true → q x = true) → (∃ x ∈ l, q x = true ∧ p x = false) → (l.filter p).length + 1 ≤ (l.filter q).length
  | [], _, ⟨x, hx, _⟩ => by cases hx
  | y :: l, h, ⟨x, hx, hq, hp⟩ => by
    have hle : (l.filter p).length ≤ (l.filter q).length := by
      have : ∀ (l : List α), (∀ x ∈ l, p x = true → q x = true) → (l.filter p).length ≤ (l.filter q).length := by
        intro l
        induction l with
        | nil => intro _; simp
        | cons z l ih =>
          intro h
          have hz := h z (by simp)
          have ih := ih fun x hx => h x (by simp [hx])
          cases hpz : p z <;> cases hqz : q z <;> simp [hpz, hqz] at hz ⊢ <;> omega
      exact this l fun x hx => h x (by simp [hx])
    rcases List.mem_cons.1 hx with rfl | hm
    · simp [hq, hp]; omega
    · have ih := filter_less l (fun x hx => h x (by simp [hx])) ⟨x, hm, hq, hp⟩
      have hy := h y (by simp)
      cases hpy : p y <;> cases hqy : q y <;> simp [hpy, hqy] at hy ⊢ <;> omega
theorem getD_set (listed : Array Bool) (i j : Nat) (d : Bool) : (listed.setIfInBounds i true).getD j d = if i = j ∧ j < listed.size then true else listed.getD j d := by
  simp only [Array.getD_eq_getD_getElem?, Array.getElem?_setIfInBounds]
  by_cases h : i = j
  · subst h
    by_cases h2 : i < listed.size
    · simp [h2]
    · simp [h2]
  · simp [h]
theorem getD_lt {listed : Array Bool} {i : Nat} (h : listed.getD i true = false) : i < listed.size := by
  rcases Nat.lt_or_ge i listed.size with h1 | h1
  · exact h1
  · rw [Array.getD_eq_getD_getElem?, Array.getElem?_eq_none h1] at h
    cases h
theorem left_set {n i : Nat} {listed : Array Bool} (hn : i < n) (h : listed.getD i true = false) : leftIn n (listed.setIfInBounds i true) + 1 ≤ leftIn n listed := by
  have hi := getD_lt h
  refine filter_less _ (fun x _ hx => ?_) ⟨i, List.mem_range.2 hn, by rw [h]; rfl, by rw [getD_set, if_pos ⟨rfl, hi⟩]; rfl⟩
  rw [getD_set] at hx
  split at hx
  · cases hx
  · exact hx
theorem wpAny_inv (Inv : Array Bool → Act → World → Prop)
    (hstep : ∀ listed a w i, Inv listed a w → i ∈ Region.ready md ops listed → wpOp P ops Q i (fun a' w' => Inv (listed.setIfInBounds i true) a' w') a w)
    (hend : ∀ listed a w, Inv listed a w → Region.ready md ops listed = [] → Q .normal a w) :
    ∀ fuel listed a w, leftIn ops.size listed ≤ fuel → Inv listed a w → wpAny P md ops Q fuel listed a w
  | 0, listed, a, w, hf, h => by
    have hr : Region.ready md ops listed = [] := by
      cases hr : Region.ready md ops listed with
      | nil => rfl
      | cons i r =>
        have hi : i ∈ Region.ready md ops listed := by rw [hr]; simp
        obtain ⟨h1, o, ho, _⟩ := mem_ready.1 hi
        have : i ∈ (List.range ops.size).filter fun i => !listed.getD i true := List.mem_filter.2 ⟨List.mem_range.2 (Array.getElem?_eq_some_iff.1 ho).1, by rw [h1]; rfl⟩
        have := List.length_pos_of_mem this
        unfold leftIn at hf
        omega
    exact ⟨hr, hend _ _ _ h hr⟩
  | fuel + 1, listed, a, w, hf, h => by
    refine ⟨hend _ _ _ h, fun i hi => ?_⟩
    obtain ⟨h1, o, ho, _⟩ := mem_ready.1 hi
    have := left_set (Array.getElem?_eq_some_iff.1 ho).1 h1
    exact wpOp_mono (fun a' w' h' => wpAny_inv Inv hstep hend fuel _ a' w' (by omega) h') (hstep _ _ _ i h hi)
theorem all_listed {listed : Array Bool} (hB : ∀ (i : Nat) (o : Oper), ops[i]? = some o → ∀ e ∈ o.after, Region.binds md e = true → e.on < i) (hr : Region.ready md ops listed = []) (hsz : listed.size = ops.size) : ∀ i, i < ops.size → listed.getD i false = true := by
  intro i
  induction i using Nat.strongRecOn with
  | _ i ih =>
    intro hi
    cases h : listed.getD i true with
    | false =>
      have : i ∈ Region.ready md ops listed := mem_ready.2 ⟨h, ops[i], Array.getElem?_eq_getElem hi, fun e he hb => by
        have hlt := hB i _ (Array.getElem?_eq_getElem hi) e he hb
        exact ih _ hlt (by omega)⟩
      rw [hr] at this
      cases this
    | true =>
      rw [Array.getD_eq_getD_getElem?, Array.getElem?_eq_getElem (by omega)] at h ⊢
      exact h
/-- What holds on the way. -/
structure Each (ops : Array Oper) (a0 : Act) (G : Array Bool → World → Prop) (Pr : Array Bool → Nat → Value → World → Prop) (listed : Array Bool) (a : Act) (w : World) : Prop where
  size : listed.size = ops.size
  tsize : a.tmps.size = a0.tmps.size
  defers : a.defers = a0.defers
  rest : ∀ t : Nat, (∀ (i : Nat) (o : Oper), ops[i]? = some o → o.dst ≠ some t) → a.tmps[t]?.getD undef = a0.tmps[t]?.getD undef
  glob : G listed w
  closed : ∀ (i : Nat) (o : Oper), ops[i]? = some o → listed.getD i false = true → ∀ e ∈ o.after, Region.binds .any e = true → listed.getD e.on false = true
  vals : ∀ (i : Nat) (o : Oper) (t : Nat), ops[i]? = some o → listed.getD i false = true → o.dst = some t → Pr listed i (a.tmps[t]?.getD undef) w
/-- The operations' temporaries are apart, and lie in the frame; each waits for earlier ones alone; none is guarded. -/
def apartB (md : Region.Mode) (ops : Array Oper) (n : Nat) : Bool :=
  (List.range ops.size).all fun i => (match ops[i]? with
    | none => false
    | some o => o.guard.isNone && (match o.dst with | none => true | some t => decide (t < n)) && o.after.all (fun e => !Region.binds md e || decide (e.on < i)) &&
      (List.range ops.size).all fun j => decide (i = j) || (match o.dst, (ops[j]?).bind (·.dst) with
        | some t, some u => decide (t ≠ u)
        | _, _ => true))
theorem apartB_spec {n : Nat} (h : apartB md ops n = true) : ∀ (i : Nat) (o : Oper), ops[i]? = some o → o.guard = none ∧ (∀ t, o.dst = some t → t < n) ∧ (∀ e ∈ o.after, Region.binds md e = true → e.on < i) ∧ ∀ (j : Nat) (o' : Oper) (t : Nat), ops[j]? = some o' → o.dst = some t → o'.dst = some t → i = j := by
  intro i o ho
  have hi := (Array.getElem?_eq_some_iff.1 ho).1
  have := List.all_eq_true.1 h i (List.mem_range.2 hi)
  rw [ho] at this
  simp only [Bool.and_eq_true] at this
  obtain ⟨⟨⟨h1, h2⟩, h3⟩, h4⟩ := this
  refine ⟨by simpa using h1, fun t ht => ?_, fun e he hb => ?_, fun j o' t hj ht hu => ?_⟩
  · rw [ht] at h2; exact of_decide_eq_true h2
  · have := Array.all_eq_true'.1 h3 e he
    rw [hb] at this
    simpa using this
  · have := List.all_eq_true.1 h4 j (List.mem_range.2 (Array.getElem?_eq_some_iff.1 hj).1)
    rw [ht, hj] at this
    simp only [Option.bind_some, hu] at this
    simpa using this
/-- One operation more. -/
theorem each_step {a0 : Act} (n : Nat) (hn : a0.tmps.size = n) (hB : apartB .any ops n = true) (G : Array Bool → World → Prop) (Pr : Array Bool → Nat → Value → World → Prop)
    (hop : ∀ (i : Nat) (o : Oper), ops[i]? = some o → ∀ (listed : Array Bool) (a : Act) (W : World), Each ops a0 G Pr listed a W → listed.getD i true = false → (∀ e ∈ o.after, Region.binds .any e = true → listed.getD e.on false = true) →
      o.wp P a W (fun a' W' => ∃ v, a' = a.put o.dst v ∧ Pr (listed.setIfInBounds i true) i v W' ∧ G (listed.setIfInBounds i true) W' ∧ ∀ j u, listed.getD j false = true → Pr listed j u W → Pr (listed.setIfInBounds i true) j u W') Q)
    (listed : Array Bool) (a : Act) (W : World) (i : Nat) (hI : Each ops a0 G Pr listed a W) (hi : i ∈ Region.ready .any ops listed) :
    ∃ o, ops[i]? = some o ∧ Region.wanted o (yielded ops a.tmps) = true ∧ o.wp P a W (fun a' w' => Each ops a0 G Pr (listed.setIfInBounds i true) a' w') Q := by
  have spec := apartB_spec hB
  obtain ⟨h1, o, ho, haf⟩ := mem_ready.1 hi
  obtain ⟨hg, hlt, _, hdist⟩ := spec i o ho
  have hw : Region.wanted o (yielded ops a.tmps) = true := by simp [Region.wanted, hg]
  refine ⟨o, ho, hw, Oper.wp_mono ?_ (hop i o ho listed a W hI h1 haf)⟩
  rintro a' W' ⟨v, rfl, hPr, hG, hst⟩
  have hil := getD_lt h1
  have hput : ∀ t : Nat, (a.put o.dst v).tmps[t]?.getD undef = if o.dst = some t ∧ t < a.tmps.size then v else a.tmps[t]?.getD undef := by
    intro t
    cases hd : o.dst with
    | none => simp [Act.put]
    | some d =>
      simp only [Act.put, Array.getElem?_setIfInBounds, Option.some.injEq]
      by_cases hdt : d = t
      · subst hdt
        by_cases h2 : d < a.tmps.size
        · simp [h2]
        · simp [h2]
      · simp [hdt]
  refine ⟨by simp [hI.size], ?_, ?_, fun t ht => ?_, hG, fun j oj hj hl e he hb => ?_, fun j oj t hj hl hd => ?_⟩
  · cases hd : o.dst <;> simp [Act.put, hI.tsize]
  · cases hd : o.dst <;> simp [Act.put, hI.defers]
  · rw [hput, if_neg (fun h => ht i o ho h.1)]
    exact hI.rest t ht
  · have hold : listed.getD e.on false = true := by
      rw [getD_set] at hl
      by_cases hji : i = j
      · subst hji
        rw [ho] at hj
        cases hj
        exact haf e he hb
      · rw [if_neg (fun h => hji h.1)] at hl
        exact hI.closed j oj hj hl e he hb
    rw [getD_set]
    split
    · rfl
    · exact hold
  · rw [getD_set] at hl
    by_cases hji : i = j
    · subst hji
      rw [ho] at hj
      cases hj
      rw [hput, if_pos ⟨hd, by rw [hI.tsize, hn]; exact hlt t hd⟩]
      exact hPr
    · rw [if_neg (fun h => hji h.1)] at hl
      rw [hput, if_neg (fun h => hji (hdist j oj t hj h.1 hd))]
      exact hst j _ hl (hI.vals j oj t hj hl hd)
theorem each_end {a0 : Act} (n : Nat) (hB : apartB .any ops n = true) {G : Array Bool → World → Prop} {Pr : Array Bool → Nat → Value → World → Prop} {listed : Array Bool} {a : Act} {W : World} (hI : Each ops a0 G Pr listed a W) (hr : Region.ready .any ops listed = []) : Each ops a0 G Pr (Array.replicate ops.size true) a W := by
  have spec := apartB_spec hB
  have hall := all_listed (fun i o ho => (spec i o ho).2.2.1) hr hI.size
  have : listed = Array.replicate ops.size true := by
    apply Array.ext
    · simp [hI.size]
    · intro i h1 h2
      have := hall i (by rw [← hI.size]; exact h1)
      rw [Array.getD_eq_getD_getElem?, Array.getElem?_eq_getElem h1] at this
      simpa using this
  rw [this] at hI
  exact hI
theorem each_start {a0 : Act} {w : World} {G : Array Bool → World → Prop} {Pr : Array Bool → Nat → Value → World → Prop} (h0 : G (Array.replicate ops.size false) w) : Each ops a0 G Pr (Array.replicate ops.size false) a0 w := by
  refine ⟨by simp, rfl, rfl, fun _ _ => rfl, h0, fun i o ho hl => ?_, fun i o t ho hl _ => ?_⟩
  all_goals
    rw [Array.getD_eq_getD_getElem?, Array.getElem?_replicate] at hl
    split at hl <;> cases hl
/-- **The law.** -/
theorem wp_region_each {id : Nat} {a0 : Act} {w : World} (hm : P.follows .mixedOrders = true) (n : Nat) (hn : a0.tmps.size = n) (hB : apartB .any ops n = true) (G : Array Bool → World → Prop) (Pr : Array Bool → Nat → Value → World → Prop)
    (h0 : G (Array.replicate ops.size false) w.drew)
    (hop : ∀ (i : Nat) (o : Oper), ops[i]? = some o → ∀ (listed : Array Bool) (a : Act) (W : World), Each ops a0 G Pr listed a W → listed.getD i true = false → (∀ e ∈ o.after, Region.binds .any e = true → listed.getD e.on false = true) →
      o.wp P a W (fun a' W' => ∃ v, a' = a.put o.dst v ∧ Pr (listed.setIfInBounds i true) i v W' ∧ G (listed.setIfInBounds i true) W' ∧ ∀ j u, listed.getD j false = true → Pr listed j u W → Pr (listed.setIfInBounds i true) j u W') Q)
    (hend : ∀ a W, Each ops a0 G Pr (Array.replicate ops.size true) a W → Q .normal a W) : (Code.region id ops true).wp P Q a0 w := by
  refine wp_region_any hm (wpAny_inv (Each ops a0 G Pr) ?_ ?_ _ _ _ _ ?_ (each_start h0))
  · intro listed a W i hI hi
    obtain ⟨o, ho, hw, h⟩ := each_step n hn hB G Pr hop listed a W i hI hi
    unfold wpOp
    rw [ho]
    simp only [hw, if_true]
    exact .inl h
  · intro listed a W hI hr
    exact hend a W (each_end n hB hI hr)
  · unfold leftIn
    exact Nat.le_trans (List.length_filter_le _ _) (by simp)
end
theorem op_value {P : Program} {o : Oper} {a : Act} {W W' : World} {K : Act → World → Prop} {Q : Exit → Act → World → Prop} {v : Value} (h : (execOp a.eval o).run P W = .ok (.value v) W') (hk : K (a.put o.dst v) W') : o.wp P a W K Q := by
  unfold Oper.wp
  rw [h]
  exact hk
theorem op_skip {P : Program} {o : Oper} {a : Act} {W W' : World} {K : Act → World → Prop} {Q : Exit → Act → World → Prop} (h : (execOp a.eval o).run P W = .ok .skip W') (hk : K (a.put o.dst undef) W') : o.wp P a W K Q := by
  unfold Oper.wp
  rw [h]
  exact hk
theorem rest_of {ops : Array Oper} {t : Nat} (h : (ops.all fun o => decide (o.dst ≠ some t)) = true) : ∀ (i : Nat) (o : Oper), ops[i]? = some o → o.dst ≠ some t := fun _ o ho => of_decide_eq_true (Array.all_eq_true'.1 h o (Array.mem_of_getElem? ho))
theorem getD_off {listed : Array Bool} {i : Nat} (h : listed.getD i true = false) : listed.getD i false = false := by
  have := getD_lt h
  rw [Array.getD_eq_getD_getElem?, Array.getElem?_eq_getElem this] at h ⊢
  exact h
theorem eval_tmp (a : Act) (t : Nat) : a.eval (.tmp t) = a.tmps[t]?.getD undef := by simp [Act.eval, Array.getD_eq_getD_getElem?]
/-- A list of a known length, written out. -/
theorem list_out {α : Type} (n : Nat) (l : List α) (h : l.length = n) (d : α) : l = (List.range n).map (fun i => l[i]?.getD d) := by
  apply List.ext_getElem
  · simp [h]
  · intro i h1 h2
    simp [h1]
theorem arr_out {α : Type} (n : Nat) (l : Array α) (h : l.size = n) (d : α) : l = ((List.range n).map (fun i => l[i]?.getD d)).toArray := by
  obtain ⟨l⟩ := l
  have := list_out n l (by simpa using h) d
  simp only [List.getElem?_toArray]
  congr 1
end Go.Proofs.Ytcjakgogdbfagaa
