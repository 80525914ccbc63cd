/- Layer 11: the tree's remove. -/
import Derived.Test.YticihfbhnbkjjabQN
namespace Go.Proofs.Yticihfbhnbkjjab
open Go.RowKit
theorem delL_none {L : Kvs} {k : Bt} (h : getL L k = none) : delL L k = L := by
  unfold delL
  rw [List.filter_eq_self]
  intro x hx
  induction L with
  | nil => cases hx
  | cons y L ih =>
    obtain ⟨a, b⟩ := y
    unfold getL at h
    split at h
    · cases h
    · rename_i hne
      rcases List.mem_cons.1 hx with rfl | hx
      · simpa using hne
      · exact ih h hx
theorem delL_mid {A B : Kvs} {k v : Bt} (s : SrtL (A ++ (k, v) :: B)) : delL (A ++ (k, v) :: B) k = A ++ B := by
  rw [SrtL, List.pairwise_append, List.pairwise_cons] at s
  unfold delL
  rw [List.filter_append, List.filter_cons]
  have hA : A.filter (fun x => decide (x.1 ≠ k)) = A := List.filter_eq_self.2 fun x hx => by simpa using klt_ne (s.2.2 x hx (k, v) (by simp))
  have hB : B.filter (fun x => decide (x.1 ≠ k)) = B := List.filter_eq_self.2 fun x hx => by simpa using (klt_ne (s.2.1.1 x hx)).symm
  rw [hA, hB]
  simp
theorem srt_del {L : Kvs} (s : SrtL L) (k : Bt) : SrtL (delL L k) := List.Pairwise.sublist List.filter_sublist s
section
variable {n root : Nat} {f f1 : Nat → Nd} {T T' : Tr} {L : Kvs} {key : Bt} {p : Nat}
theorem Good.rem (h : Good (n + 1) root f T L) (hk : (f p).k = key) (r : Rem f f1 T T' p) :
    T'.pl.Nodup ∧ p ∉ T'.pl ∧ (∀ q, q ∈ T'.pl ↔ q ≠ p ∧ 0 < q ∧ q < n + 1) ∧ T'.pl.length + 1 = n ∧ f1 0 = Nd.zero ∧ kvs f1 T'.pl = delL L key ∧ Srt (keys f1 T'.pl) := by
  obtain ⟨A, B, e1, e2⟩ := r.ex
  obtain ⟨n1, n2⟩ := r.nodup h.nd
  have hL : L = kvs f A ++ (key, (f p).v) :: kvs f B := by rw [← h.kv, e1, kvs, List.map_append, List.map_cons, hk]; rfl
  have hkv : kvs f1 T'.pl = delL L key := by
    have hs := h.srt
    rw [hL] at hs
    rw [hL, delL_mid hs, kvs_kv r.kv, e2, kvs, List.map_append]
    rfl
  refine ⟨n1, n2, fun q => ?_, ?_, ?_, hkv, srt_kvs.1 (by rw [hkv]; exact srt_del h.srt key)⟩
  · have hm := h.mem q
    rw [e1, mem_ins, ← e2] at hm
    constructor
    · intro hq
      exact ⟨fun e => n2 (e ▸ hq), hm.1 (.inr hq)⟩
    · rintro ⟨a, b⟩
      exact (hm.2 b).resolve_left a
  · have := h.len
    rw [e1, List.length_append, List.length_cons] at this
    rw [e2, List.length_append]
    omega
  · rw [r.out 0 fun e => h.lk.ne 0 e rfl]; exact h.z
theorem Good.remLast (h : Good (n + 1) root f T L) (hp : n ∈ T.pl) (hk : (f n).k = key) (r : Rem f f1 T T' n) : Good n T'.top (upd f1 n Nd.zero) T' (delL L key) := by
  obtain ⟨a, b, c, d, e, g, _⟩ := h.rem hk r
  have ext : ∀ q ∈ T'.pl, upd f1 n Nd.zero q = f1 q := fun q hq => upd_other _ _ fun x => b (x ▸ hq)
  have hn0 := h.lk.ne n hp
  refine ⟨r.lk.ext ext, rfl, a, fun q => by rw [c]; omega, d, by rw [upd_other _ _ (Ne.symm hn0)]; exact e, ?_, srt_del h.srt key⟩
  rw [← g]
  exact List.map_congr_left fun q hq => by rw [ext q hq]
theorem Good.remMove (h : Good (n + 1) root f T L) (hp : p ∈ T.pl) (hpn : p < n) (hk : (f p).k = key) (r : Rem f f1 T T' p) :
    RPre f1 T' n ∧ Good n (rootL T'.top (T'.hang f1 n none) p) (upd (movF f1 (T'.hang f1 n none) n p) n Nd.zero) (T'.ren n p) (delL L key) := by
  obtain ⟨a, b, c, d, e, g, s⟩ := h.rem hk r
  have hp0 := h.lk.ne p hp
  have hnT : n ∈ T'.pl := (c n).2 ⟨by omega, by omega, by omega⟩
  have hR : RPre f1 T' n := ⟨a, r.lk, by rw [e]; rfl, s, hnT⟩
  refine ⟨hR, ?_⟩
  have hn0 : n ≠ 0 := by omega
  -- what the nodes are then
  obtain ⟨C, hC⟩ : ∃ C, C = T'.hang f1 n none := ⟨_, rfl⟩
  rw [← hC]
  have key2 : Lk (movF f1 C n p) (T'.ren n p) ∧ rootL T'.top C p = (T'.ren n p).top ∧ (∀ q s, C = some (q, s) → q ∈ T'.pl) := by
    by_cases ht : T'.top = n
    · obtain ⟨x, y, eT⟩ := r.lk.form (by rw [ht]; exact hn0)
      rw [ht] at eT
      have eC : C = none := by rw [hC, eT, Tr.hang, if_pos rfl]
      rw [eC, eT]
      rw [eT] at hR b
      exact ⟨mov_top hR b hp0 none (fun q s e => by cases e), by rw [ren_top hn0]; show p = ren n p n; rw [ren_same], fun q s e => by cases e⟩
    · obtain ⟨q, s, x1, x2, x3, x4, x5, x6, x7⟩ := mov_any hp0 hR b none ht
      rw [← hC] at x1
      rw [x1]
      exact ⟨x6, by rw [ren_top hn0, ren_other ht]; rfl, fun q' s' e => by injection e with e; injection e with e _; exact e ▸ x2⟩
  obtain ⟨k1, k2, k3⟩ := key2
  have kvm : ∀ q, (movL f1 C p q).k = (f1 q).k ∧ (movL f1 C p q).v = (f1 q).v := fun q => by
    unfold movL
    cases C with
    | none => exact ⟨rfl, rfl⟩
    | some x => exact (KV.upd (Nd.setLink_kv (f1 x.1) x.2 p)) q
  have hmov : ∀ q ∈ T'.pl, (upd (movF f1 C n p) n Nd.zero (ren n p q)).k = (f1 q).k ∧ (upd (movF f1 C n p) n Nd.zero (ren n p q)).v = (f1 q).v := fun q hq => by
    by_cases x : q = n
    · rw [x, ren_same, upd_other _ _ (by omega), movF_eq, upd_same]
      exact kvm n
    · rw [ren_other x, upd_other _ _ x, movF_eq, upd_other _ _ (show q ≠ p from fun y => b (y ▸ hq))]
      exact kvm q
  have memR : ∀ q, q ∈ (T'.ren n p).pl ↔ 0 < q ∧ q < n := fun q => by
    rw [ren_pl, List.mem_map]
    constructor
    · rintro ⟨x, hx, rfl⟩
      by_cases y : x = n
      · rw [y, ren_same]; omega
      · rw [ren_other y]
        have := (c x).1 hx
        omega
    · intro hq
      by_cases y : q = p
      · exact ⟨n, hnT, by rw [ren_same, y]⟩
      · exact ⟨q, (c q).2 ⟨y, by omega⟩, ren_other (by omega)⟩
  have z0 : upd (movF f1 C n p) n Nd.zero 0 = Nd.zero := by
    rw [upd_other _ _ (Ne.symm hn0), movF_eq, upd_other _ _ (Ne.symm hp0)]
    unfold movL
    cases C with
    | none => exact e
    | some x =>
      have := k3 x.1 x.2 rfl
      show upd f1 x.1 _ 0 = _
      rw [upd_other _ _ (Ne.symm (r.lk.ne _ this))]
      exact e
  refine ⟨k1.ext fun q hq => upd_other _ _ (by have := (memR q).1 hq; omega), k2, ?_, memR, by rw [ren_pl, List.length_map]; exact d, z0, ?_, srt_del h.srt key⟩
  · rw [ren_pl]
    refine List.Pairwise.map _ (S := fun x y => x ≠ y) ?_ (List.Pairwise.imp_of_mem (R := fun x y => x ≠ y) (S := fun x y => x ≠ y ∧ x ∈ T'.pl ∧ y ∈ T'.pl) (fun hx hy hxy => ⟨hxy, hx, hy⟩) a)
    rintro x y ⟨hxy, hx, hy⟩ e
    by_cases x1 : x = n
    · by_cases y1 : y = n
      · exact hxy (x1.trans y1.symm)
      · rw [x1, ren_same, ren_other y1] at e
        exact b (e ▸ hy)
    · by_cases y1 : y = n
      · rw [y1, ren_same, ren_other x1] at e
        exact b (e ▸ hx)
      · rw [ren_other x1, ren_other y1] at e
        exact hxy e
  · rw [ren_pl, kvs, List.map_map, ← g]
    exact List.map_congr_left fun q hq => by
      show ((upd (movF f1 C n p) n Nd.zero (ren n p q)).k, (upd (movF f1 C n p) n Nd.zero (ren n p q)).v) = _
      rw [(hmov q hq).1, (hmov q hq).2]
end
/-- What remove leaves. -/
def RemEnd (tb g : Nat) (L : Kvs) (key : Bt) (w : World) (e : Ending) (w' : World) : Prop := e = .returned (.bool (getL L key).isSome) ∧ Hid (TreeAt tb g (delL L key) w' ∧ Kt (fun i => i = tb ∨ i = g) w w')
theorem remove_none (tb g : Nat) (L : Kvs) (w : World) (key : Bt) (h : TreeAt tb g L w) (hk : getL L key = none) :
    Calls Try.prog 33 #[.pointer (some ⟨tb, 0, none⟩), sv key] w (RemEnd tb g L key w) := by
  obtain ⟨n, cap, root, f, T, h1, h2⟩ := h
  have hf : T.find f key = 0 := by
    rcases h2.find key with ⟨a, _⟩ | ⟨_, _, _, _, a⟩
    · exact a
    · rw [hk] at a; cases a
  have HF := hidb (find_any tb g n cap root f T w key h1 h2.lk h2.top h2.hm)
  rw [hf] at HF
  have HE : Hid (∀ m, RemEnd tb g L key w (.returned (.bool false)) (w.drewN m)) := hidb fun m => ⟨by rw [hk]; rfl, hidb ⟨by rw [delL_none hk]; exact ⟨n, cap, root, f, T, h1.drewN m, h2⟩, (Kt.refl _ w).drewN m⟩⟩
  clear h1 h2 hf hk
  go_enter Try.func33, Try.ntmps33
  go_wp2_with (go_at_call 49; refine HF.out.mono ?_; clear HF; rintro e w1 ⟨rfl, m, rfl⟩)
  go_ret
  exact HE.out m
set_option maxRecDepth 100000 in
set_option maxHeartbeats 1000000 in
theorem remove_some (tb g n cap root : Nat) (f : Nat → Nd) (T : Tr) (L : Kvs) (w : World) (key : Bt) (h1 : TS tb g (n + 1) cap root f w) (h2 : Good (n + 1) root f T L) (p : Nat) (hf : T.find f key = p) (hp0 : p ≠ 0) (hp : p ∈ T.pl) (hk : (f p).k = key) (hg : (getL L key).isSome = true) :
    Calls Try.prog 33 #[.pointer (some ⟨tb, 0, none⟩), sv key] w (RemEnd tb g L key w) := by
  have HF := hidb (find_any tb g (n + 1) cap root f T w key h1 h2.lk h2.top h2.hm)
  rw [hf] at HF
  have hpz : ((p : Int) == 0) = false := by simpa using hp0
  have hs : Srt (keys f T.pl) := srt_kvs.1 (by rw [h2.kv]; exact h2.srt)
  have HW : Hid (∀ M, Calls Try.prog 53 #[.pointer (some ⟨tb, 0, none⟩), .int .i64 root, .int .i64 p] (w.drewN M) fun e w' => ∃ q : Nat, e = .returned (.int .i64 q) ∧ Hid (∃ f' T', Rem f f' T T' p ∧ T'.top = q ∧ TS tb g (n + 1) cap root f' w' ∧ Kg g w w')) := hidb fun M => by
    have := without_any tb g (n + 1) cap root f (by omega) T p (w.drewN M) (h1.drewN M) ⟨h2.nd, h2.lk, by rw [h2.z]; rfl, hs, hp⟩ h2.hm (by have := h2.len; have := h1.lt; omega)
    rw [← h2.top] at this
    exact this.mono fun e w' ⟨q, e1, H⟩ => ⟨q, e1, by obtain ⟨f', T', a, b, c, d⟩ := H.out; exact hidb ⟨f', T', a, b, c, ((Kg.refl g w).drewN M).trans d⟩⟩
  have c1 := h1.c1
  have HN : Hid (∀ (q : Nat) w8, (∃ f' T', Rem f f' T T' p ∧ T'.top = q ∧ TS tb g (n + 1) cap root f' w8 ∧ Kg g w w8) → w8.cell? ⟨tb, 1, none⟩ = some (.int .i64 root) ∧ w8.frozen? ⟨tb, 1, none⟩ = false ∧
      Calls Try.prog 54 #[.pointer (some ⟨tb, 0, none⟩), .int .i64 p] (w8.setCell ⟨tb, 1, none⟩ (.int .i64 q)) fun e w' => e = .returned (.tuple #[]) ∧ Hid (RemEnd tb g L key w (.returned (.bool true)) w')) := hidb fun q w8 ⟨f', T', y1, y2, y3, y4⟩ => by
    subst y2
    have t9 := y3.setRoot T'.top
    have k9 : Kt (fun i => i = tb ∨ i = g) w (w8.setCell ⟨tb, 1, none⟩ (.int .i64 (T'.top : Nat))) := (Kt.grown y4 (.inr rfl)).set fun _ => .inl rfl
    refine ⟨y3.c1, y3.frb 1, ?_⟩
    by_cases e : p = n
    · subst e
      exact (free_last tb g p cap _ f' _ t9).mono fun e w' ⟨x, y, z⟩ => ⟨x, hidb ⟨by rw [hg], hidb ⟨⟨p, cap, _, _, T', y, h2.remLast hp hk y1⟩, k9.trans z fun _ _ x => x⟩⟩⟩
    · have hpn : p < n := by have := h2.hm p hp; omega
      obtain ⟨r1, r2⟩ := h2.remMove hp hpn hk y1
      have rm := (h2.rem hk y1).2.2.1
      exact (free_move tb g n cap _ f' _ p T' t9 hpn r1 rfl (fun q hq => ((rm q).1 hq).2.2)).mono fun e w' ⟨x, y, z⟩ => ⟨x, hidb ⟨by rw [hg], hidb ⟨⟨n, cap, _, _, _, y, r2⟩, k9.trans z fun _ _ x => x⟩⟩⟩
  clear h1 h2 hf hp hk hs
  go_enter Try.func33, Try.ntmps33
  go_wp2_with (first
    | (go_at_call 49; refine HF.out.mono ?_; clear HF; rintro e w1 ⟨rfl, m, rfl⟩)
    | (go_at_call 53; refine (HW.out _).mono ?_; clear HW; rintro e w8 ⟨q8, rfl, K8⟩; obtain ⟨d1, d2, hN⟩ := HN.out q8 w8 K8.out; replace HN := hidb hN; clear hN)
    | (go_at_call 54; refine HN.out.mono ?_; clear HN; rintro e w9 ⟨rfl, K9⟩)
    | fail)
  go_ret
  exact K9.out
/-- remove of any key. -/
theorem remove_any (tb g : Nat) (L : Kvs) (w : World) (key : Bt) (h : TreeAt tb g L w) :
    Calls Try.prog 33 #[.pointer (some ⟨tb, 0, none⟩), sv key] w (RemEnd tb g L key w) := by
  cases hk : getL L key with
  | none => exact remove_none tb g L w key h hk
  | some v =>
    obtain ⟨n, cap, root, f, T, h1, h2⟩ := h
    rcases h2.find key with ⟨_, a⟩ | ⟨a, b, _, d, _⟩
    · rw [hk] at a; cases a
    · obtain ⟨k, rfl⟩ : ∃ k, n = k + 1 := ⟨n - 1, by have := h2.len; omega⟩
      exact remove_some tb g k cap root f T L w key h1 h2 _ rfl a b d (by rw [hk]; rfl)
end Go.Proofs.Yticihfbhnbkjjab
