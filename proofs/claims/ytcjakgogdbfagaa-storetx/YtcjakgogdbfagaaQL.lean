/- Layer 11: the tree's put of a new key. -/
import Derived.Test.YtcjakgogdbfagaaQK
import Derived.Deep.DeepCutAuto
import Derived.Deep.DeepAppendWide
import Derived.Deep.AppendSrc
namespace Go.Proofs.Ytcjakgogdbfagaa
open Go.RowKit
def Nd.row (x : Nd) : List Value := [sv x.k, sv x.v, .int .i64 x.l, .int .i64 x.r, .int .i64 x.h]
def flat (f : Nat → Nd) : Nat → List Value
  | 0 => []
  | n + 1 => flat f n ++ (f n).row
theorem flat_len (f : Nat → Nd) : ∀ n, (flat f n).length = n * 5
  | 0 => rfl
  | n + 1 => by rw [flat, List.length_append, flat_len f n]; show n * 5 + 5 = _; omega
theorem Nd.row_c (x : Nd) {k : Nat} (h : k < 5) : x.row[k]? = some (x.c k) := by rcases cases5 h with rfl | rfl | rfl | rfl | rfl <;> rfl
theorem flat_at (f : Nat → Nd) {p k : Nat} (hk : k < 5) : ∀ n, p < n → (flat f n)[p * 5 + k]? = some ((f p).c k)
  | 0, h => by cases h
  | n + 1, h => by
    rw [flat]
    by_cases e : p = n
    · subst e
      rw [List.getElem?_append_right (by rw [flat_len]; omega), flat_len, show p * 5 + k - p * 5 = k by omega, Nd.row_c _ hk]
    · rw [List.getElem?_append_left (by rw [flat_len]; omega)]
      exact flat_at f hk n (by omega)
theorem flat_ext {f g : Nat → Nd} : ∀ n, (∀ p < n, g p = f p) → flat g n = flat f n
  | 0, _ => rfl
  | n + 1, h => by rw [flat, flat, flat_ext n fun p hp => h p (by omega), h n (by omega)]
theorem flat_eq {f : Nat → Nd} {n : Nat} {l : List Value} (hl : l.length = n * 5) (h : ∀ p < n, ∀ k < 5, l[p * 5 + k]? = some ((f p).c k)) : l = flat f n := by
  apply List.ext_getElem?
  intro i
  by_cases hi : i < n * 5
  · have e : i = i / 5 * 5 + i % 5 := by omega
    rw [e, h (i / 5) (by omega) (i % 5) (by omega), flat_at f (by omega) n (by omega)]
  · rw [List.getElem?_eq_none (by omega), List.getElem?_eq_none (by rw [flat_len]; omega)]
theorem TS.own {tb g n cap root : Nat} {f : Nat → Nd} {w : World} (h : TS tb g n cap root f w) : w.ownsRow 0 96 5 (.slice (some ⟨g, 0, none⟩) n cap) n (flat f n) := by
  obtain ⟨cur, h1, h2, h3, h4⟩ := h.nb
  refine ⟨flat_len f n, .inr ⟨g, cap, cur, rfl, Nat.zero_le _, h1, h3, h.cm, h2, ?_⟩⟩
  refine flat_eq ?_ fun p hp k hk => ?_
  · rw [List.length_take, Array.length_toList, h2]; omega
  · rw [List.getElem?_take_of_lt (by omega), Array.getElem?_toList]
    exact h4 p hp k hk
theorem NB.of {w : World} {g n cap : Nat} {f : Nat → Nd} (h : w.ownsRow 0 96 5 (.slice (some ⟨g, 0, none⟩) n cap) n (flat f n)) : NB w g n cap f ∧ cap ≤ maxLen := by
  rcases h.2 with ⟨e, _⟩ | ⟨g', cap', cur, e, _, h1, h3, hc, h2, ht⟩
  · cases e
  · injection e with e1 _ e3
    injection e1 with e1
    injection e1 with e1
    subst e1; subst e3
    refine ⟨⟨cur, h1, h2, h3, fun p hp k hk => ?_⟩, hc⟩
    have := flat_at f hk n hp
    rw [← ht, List.getElem?_take_of_lt (by omega), Array.getElem?_toList] at this
    exact this
theorem elemN_node : ElemN Try.prog 88 96 5 56 := by
  refine ⟨Try.underlying88, ?_, by decide⟩
  obtain ⟨i, hi, h1, h2, h3⟩ := info_parts (show (Try.prog.info? 96).map (fun i => (i.zero, i.size, i.bytes)) = some (some (.agg #[.string ⟨#[]⟩, .string ⟨#[]⟩, .int .i64 0, .int .i64 0, .int .i64 0]), 5, 56) by kernel_rfl)
  exact ⟨i, _, hi, h1, h2, h3, rfl⟩
theorem cells_newb (W : World) (xs : List Value) (t : TypeId) (B : Nat) (hB : W.heap.size = B) : ∀ j u, xs[j]? = some u → (W.alloc (.cells xs.toArray t)).cell? ((⟨B, 0, none⟩ : Addr).add j) = some u := by
  subst hB
  intro j u hu
  rw [Addr.add_lit, Lib.cell_of_heap (heap_alloc_new W (.cells xs.toArray t))]
  simpa using hu
theorem app_step {tb g n cap root : Nat} {f : Nat → Nd} {W w6 : World} {o : Obj} {v' : Value} (x : Nd) (h : TS tb g n cap root f W) (hn : n + 1 ≤ 4398046511104) (hr6 : w6.ownsRow 0 96 5 v' (n + 1) (flat f n ++ x.row)) (hs6 : Step (W.alloc o) (.slice (some ⟨g, 0, none⟩) n cap) w6 v') :
    ∃ g6 cap6, v' = .slice (some ⟨g6, 0, none⟩) (n + 1) cap6 ∧ w6.cell? ⟨tb, 0, none⟩ = some (.slice (some ⟨g, 0, none⟩) n cap) ∧ w6.frozen? ⟨tb, 0, none⟩ = false ∧
      Hid (TS tb g6 (n + 1) cap6 root (upd f n x) (w6.setCell ⟨tb, 0, none⟩ (.slice (some ⟨g6, 0, none⟩) (n + 1) cap6)) ∧ (g6 = g ∨ W.heap.size ≤ g6) ∧ Kt (fun i => i = tb ∨ i = g) W (w6.setCell ⟨tb, 0, none⟩ (.slice (some ⟨g6, 0, none⟩) (n + 1) cap6))) := by
  obtain ⟨g6, cap6, e⟩ : ∃ g6 cap6, v' = .slice (some ⟨g6, 0, none⟩) (n + 1) cap6 := by
    rcases hr6.2 with ⟨_, e⟩ | ⟨g6, cap6, cur, e, _⟩
    · omega
    · exact ⟨g6, cap6, e⟩
  subst e
  have hsz : (W.alloc o).heap.size = W.heap.size + 1 := by simp
  have hbox : w6.heap[tb]? = W.heap[tb]? := (hs6.1.block tb (by have := h.ltb; omega) (by simp [Value.ownBlock]; exact h.ne)).trans (Below.heap_alloc _ _ _ h.ltb)
  have hb6 := hbox.trans h.box
  have hg6 : g6 = g ∨ W.heap.size + 1 ≤ g6 := by
    rcases hs6.2 with e | ⟨q, e, hq⟩
    · simp [Value.ownBlock] at e; exact .inl e
    · simp [Value.ownBlock] at e; subst e; exact .inr (by omega)
  have hne : tb ≠ g6 := by rcases hg6 with e | e; exact e ▸ h.ne; have := h.ltb; omega
  have ef : flat f n ++ x.row = flat (upd f n x) (n + 1) := by
    rw [flat, upd_same, flat_ext (f := f) n fun p hp => upd_other _ _ (by omega)]
  rw [ef] at hr6
  obtain ⟨nb, hcm⟩ := NB.of hr6
  refine ⟨g6, cap6, rfl, by rw [Lib.cell_of_heap hb6]; rfl, Lib.frozen_of_heap hb6 0, hidb ⟨⟨?_, ?_, hne, hcm, hn⟩, ?_, ?_⟩⟩
  · rw [heap_setCell_same _ _ _ _ _ _ hb6]; rfl
  · obtain ⟨cur, n1, n2⟩ := nb
    exact ⟨cur, (Below.heap_setCell _ _ _ _ (Ne.symm hne)).trans n1, n2⟩
  · rcases hg6 with e | e
    · exact .inl e
    · exact .inr (by omega)
  · have k : Kt (fun i => i = tb ∨ i = g) W w6 := ⟨hs6.1.os, hs6.1.tape, hs6.1.output, by have := hs6.1.size; omega, fun i hi hn => (hs6.1.block i (by omega) (by simp [Value.ownBlock]; exact fun e => hn (.inr e))).trans (Below.heap_alloc _ _ _ hi)⟩
    exact k.set fun _ => .inl rfl
theorem Good.putNew {n root : Nat} {f : Nat → Nd} {T : Tr} {L : Kvs} (h : Good n root f T L) {key val : Bt} (hf : T.find f key = 0) (f0 : Nat → Nd) (e0 : f0 = upd f n ⟨key, val, 0, 0, 1⟩) :
    WPre f0 T n ∧ ∀ f' T', Ins f0 f' T T' n → Good (n + 1) T'.top f' T' (putL L key val) := by
  have hpos := h.pos
  have hnT : n ∉ T.pl := fun e => by have := h.hm n e; omega
  have ext : ∀ p ∈ T.pl, f0 p = f p := fun p hp => by rw [e0]; exact upd_other _ _ (by have := h.hm p hp; omega)
  have en : f0 n = ⟨key, val, 0, 0, 1⟩ := by rw [e0, upd_same]
  have e00 : f0 0 = Nd.zero := by rw [e0, upd_other _ _ (by omega)]; exact h.z
  have hs0 : Srt (keys f0 T.pl) := by
    rw [show keys f0 T.pl = keys f T.pl from List.map_congr_left fun p hp => by rw [ext p hp]]
    exact srt_kvs.1 (by rw [h.kv]; exact h.srt)
  have hne : key ∉ keys f T.pl := by
    rcases find_spec (key := key) h.lk (srt_kvs.1 (by rw [h.kv]; exact h.srt)) with ⟨_, b⟩ | ⟨_, b, _⟩
    · exact b
    · exact absurd hf b
  have hne0 : (f0 n).k ∉ keys f0 T.pl := by
    rw [en, show keys f0 T.pl = keys f T.pl from List.map_congr_left fun p hp => by rw [ext p hp]]
    exact hne
  refine ⟨⟨List.nodup_cons.2 ⟨hnT, h.nd⟩, h.lk.ext ext, by rw [e00]; rfl, by rw [en]; exact ⟨rfl, rfl, rfl, by omega⟩, hs0, hne0⟩, fun f' T' i => ?_⟩
  obtain ⟨A, B, x1, x2, x3, x4⟩ := i.ex
  have mem : ∀ p, p ∈ T'.pl ↔ p = n ∨ p ∈ T.pl := fun p => by rw [x2, x1]; exact mem_ins
  have kvT : kvs f' T.pl = L := by
    rw [kvs_kv i.kv, ← h.kv]
    exact List.map_congr_left fun p hp => by rw [ext p hp]
  have hkn : (f' n).k = key ∧ (f' n).v = val := by rw [(i.kv n).1, (i.kv n).2, en]; exact ⟨rfl, rfl⟩
  have hA : ∀ x ∈ kvs f' A, klt x.1 key := fun x hx => by
    obtain ⟨p, hp, rfl⟩ := List.mem_map.1 hx
    have := x3 p hp
    rw [en] at this
    rw [(i.kv p).1]
    exact this
  have hB : ∀ x ∈ kvs f' B, klt key x.1 := fun x hx => by
    obtain ⟨p, hp, rfl⟩ := List.mem_map.1 hx
    have := x4 p hp
    rw [en] at this
    rw [(i.kv p).1]
    exact this
  have hL : L = kvs f' A ++ kvs f' B := by rw [← kvT, x1, kvs, List.map_append]; rfl
  have hkv : kvs f' T'.pl = kvs f' A ++ (key, val) :: kvs f' B := by rw [x2, kvs, List.map_append, List.map_cons, hkn.1, hkn.2]; rfl
  have hput : putL L key val = kvs f' A ++ (key, val) :: kvs f' B := by rw [hL]; exact putL_new hA hB
  refine ⟨i.lk, rfl, ?_, fun p => ?_, ?_, ?_, by rw [hkv, hput], ?_⟩
  · rw [x2]
    have nd := h.nd
    rw [x1] at nd hnT
    simp only [List.mem_append, not_or] at hnT
    rw [List.nodup_append] at nd ⊢
    exact ⟨nd.1, List.nodup_cons.2 ⟨hnT.2, nd.2.1⟩, fun a ha b hb => by
      rcases List.mem_cons.1 hb with rfl | hb
      · exact fun e => hnT.1 (e ▸ ha)
      · exact nd.2.2 a ha b hb⟩
  · rw [mem, h.mem]; omega
  · have := h.len
    rw [x1, List.length_append] at this
    rw [x2, List.length_append, List.length_cons]
    omega
  · rw [i.out 0, e00]
    simp only [List.mem_cons, not_or]
    exact ⟨by omega, fun e => h.lk.ne 0 e rfl⟩
  · have hs := h.srt
    rw [hL, SrtL, List.pairwise_append] at hs
    rw [hput, SrtL, List.pairwise_append, List.pairwise_cons]
    refine ⟨hs.1, ⟨fun x hx => hB x hx, hs.2.1⟩, fun x hx y hy => ?_⟩
    rcases List.mem_cons.1 hy with rfl | hy
    · exact hA x hx
    · exact hs.2.2 x hx y hy
theorem TS.setRoot {tb g n cap root : Nat} {f : Nat → Nd} {w : World} (h : TS tb g n cap root f w) (q : Nat) : TS tb g n cap q f (w.setCell ⟨tb, 1, none⟩ (.int .i64 q)) := by
  obtain ⟨cur, h1, h2⟩ := h.nb
  exact ⟨by rw [heap_setCell_same _ _ _ _ _ _ h.box]; rfl, ⟨cur, (Below.heap_setCell _ _ _ _ (Ne.symm h.ne)).trans h1, h2⟩, h.ne, h.cm, h.lt⟩
theorem wide_ok {n : Nat} (h : (n + 1) * 46 ≤ 140737488355328) : n + 1 ≤ maxLen ∧ ((n + 1) + (n + 1) / 4 + 192) * 56 ≤ 281474976710656 := by
  have h1 : n + 1 ≤ 3059510616420 := Nat.le_of_lt_succ (Nat.lt_of_mul_lt_mul_right (a := 46) (Nat.lt_of_le_of_lt h (by decide)))
  have h2 : (n + 1) / 4 ≤ 764877654105 := Nat.le_trans (Nat.div_le_div_right h1) (by decide)
  have h3 : (n + 1) + (n + 1) / 4 + 192 ≤ 3824388270717 := Nat.add_le_add_right (Nat.add_le_add h1 h2) 192
  exact ⟨Nat.le_trans h1 (by decide), Nat.le_trans (Nat.mul_le_mul_right 56 h3) (by decide)⟩
/-- append onto a row of one's own, as long as its new row may be. -/
theorem run_appNw {P : Program} (w : World) {t ty e : TypeId} {size bytes : Nat} (E : ElemN P t e size bytes) (base g n cap : Nat) (xs : List Value) (hown : w.ownsRow base e size (.slice (some ⟨g, 0, none⟩) n cap) n xs) (ad : Addr) (m c : Nat) (news : List Value) (hnews : ∀ j u, news[j]? = some u → w.cell? (ad.add j) = some u) (hl : news.length = m * size) (h1 : ∀ u ∈ news, u.oneCell' = true)
    (h63 : n + m ≤ maxLen) (hbytes : ((n + m) + (n + m) / 4 + 192) * bytes ≤ 281474976710656) (hbase : base ≤ w.heap.size) :
    ∃ v' w', (Builtin.append_ #[t, t] ty #[.slice (some ⟨g, 0, none⟩) n cap, .slice (some ad) m c]).run P w = .ok v' w' ∧ w'.ownsRow base e size v' (n + m) (xs ++ news) ∧ Step w (.slice (some ⟨g, 0, none⟩) n cap) w' v' := by
  obtain ⟨ht, ⟨i, z, hi, hz, hsize, hby, hzs⟩, hpos⟩ := E
  obtain ⟨v', w', hr, h2, h3, _⟩ := run_append_own_wide (P := P) w base t ty e i z size bytes ht hi hz hsize hby hzs hpos _ n xs hown ad m c news hl hnews h1 h63 hbytes hbase
  refine ⟨v', w', hr, h2, h3, ?_⟩
  subst hsize
  have hs : Src P i.size t (.slice (some ad) m c) m news w := Src.ofSlice w ht ad m c news hl hnews h1
  have hsmall : n + m ≤ 9223372036854775807 := by simp only [maxLen] at h63; omega
  rcases hown.2 with ⟨e0, _⟩ | ⟨g', cap', cur, e0, hbg, hg, hnc, hcm, hcs, htake⟩
  · cases e0
  · cases e0
    by_cases hroom : n + m ≤ cap
    · have hfit : n * i.size + news.length ≤ cur.size := by rw [hl, hcs, ← Nat.add_mul]; exact Nat.mul_le_mul_right _ hroom
      have hr2 := run_append_room (P := P) w t ty e i ht hi g n cap cur hg ad m c news hl hnews h1 hroom hfit
      rw [hr] at hr2
      injection hr2 with e1 _
      subst e1
      exact .inl rfl
    · have hr2 := run_append_grow_src (P := P) w t t ty e i z ht hi hz (some ⟨g, 0, none⟩) n cap xs (run_firstCells_some w.drew i.size n ⟨g, 0, none⟩ n cap xs hown.1 (fun j u h => World.ownsRow.cells hown (g := g) rfl j u h)) (.slice (some ad) m c) m news hs (by omega) (by omega) (growslice_fits_wide (by omega) (by rw [hby]; exact hbytes))
      rw [hr] at hr2
      injection hr2 with e1 _
      subst e1
      exact .inr ⟨_, rfl, Nat.le_refl _⟩
theorem step_appNw {P : Program} (w : World) {ops : Array Oper} {o : Oper} {a : Act} {K : Act → World → Prop} {Q : Exit → Act → World → Prop} {X : Prop} (hgd : o.guard = none) (s x : Operand) (t : TypeId) (ho : o.op = .call { callee := .builtin .append, args := #[s, x], argTypes := #[t, t] })
    {e : TypeId} {size bytes : Nat} (E : ElemN P t e size bytes) (base g n cap : Nat) (xs : List Value) (hv : a.eval s = .slice (some ⟨g, 0, none⟩) n cap) (hown : w.ownsRow base e size (.slice (some ⟨g, 0, none⟩) n cap) n xs) (ad : Addr) (m c : Nat) (hyv : a.eval x = .slice (some ad) m c) (news : List Value) (hnews : ∀ j u, news[j]? = some u → w.cell? (ad.add j) = some u) (hl : news.length = m * size) (h1 : ∀ u ∈ news, u.oneCell' = true)
    (h63 : n + m ≤ maxLen) (hbytes : ((n + m) + (n + m) / 4 + 192) * bytes ≤ 281474976710656) (hbase : base ≤ w.heap.size)
    (h : ∀ v' w', w'.ownsRow base e size v' (n + m) (xs ++ news) → Step w (.slice (some ⟨g, 0, none⟩) n cap) w' v' → K (a.put o.dst v') w') :
    if Region.wanted o (yielded ops a.tmps) = true then Oper.wp P o a w K Q else X := by
  have hw : Region.wanted o (yielded ops a.tmps) = true := by simp [Region.wanted, hgd]
  rw [if_pos hw]
  obtain ⟨v', w', hr, h2, h3⟩ := run_appNw (P := P) w (ty := o.type) E base g n cap xs hown ad m c news hnews hl h1 h63 hbytes hbase
  unfold Oper.wp execOp
  simp only [ho, resolve, invoke, builtin, Sem.run_bind, Sem.run_pure, Result.andThen_ok, List.map_toArray, List.map_cons, List.map_nil, hv, hyv, hr]
  exact h v' w' h2 h3
set_option maxRecDepth 100000 in
set_option maxHeartbeats 1000000 in
theorem put_new (tb g n cap root : Nat) (f : Nat → Nd) (T : Tr) (L : Kvs) (w : World) (key val : Bt) (h : TS tb g n cap root f w) (hG : Good n root f T L) (hk : key.length ≤ 281474976710656) (hv : val.length ≤ 281474976710656) (hf : T.find f key = 0) (hroom : (n + 1) * 46 ≤ 140737488355328) :
    Calls Try.prog 36 #[.pointer (some ⟨tb, 0, none⟩), sv key, sv val] w (PutEnd tb g (putL L key val) w) := by
  have HC := hidb (strings_clone val w hv)
  have HC2 := hidb fun W => strings_clone key W hk
  have hlt := h.lt
  have HF : Hid (∀ W, Below w.heap.size w W → Calls Try.prog 54 #[.pointer (some ⟨tb, 0, none⟩), sv key] W fun e w' => e = .returned (.int .i64 0) ∧ Hid (TS tb g n cap root f w' ∧ Below w.heap.size w w')) := hidb fun W hb => by
    have h1 := h.keep (hb.block _ h.ltb) (hb.block _ h.ltg)
    have := find_any tb g n cap root f T W key h1 hG.lk hG.top hG.hm
    rw [hf] at this
    refine this.mono fun e w' ⟨x, m, y⟩ => ⟨x, ?_⟩
    subst y
    exact hidb ⟨h1.drewN m, below_drewN hb m⟩
  have HA : Hid (∀ W, TS tb g n cap root f W → ∀ B, Below W.heap.size W B → TS tb g n cap root f B ∧ B.cell? ⟨tb, 0, none⟩ = some (.slice (some ⟨g, 0, none⟩) n cap) ∧ tb < B.heap.size) := hidb fun W h1 B hb => by
    have h2 := h1.keep (hb.block _ h1.ltb) (hb.block _ h1.ltg)
    exact ⟨h2, h2.c0, h2.ltb⟩
  have hn1 : n + 1 ≤ 4398046511104 := by omega
  obtain ⟨hwd1, hwd2⟩ := wide_ok hroom
  have eC : ∀ args w, (callFunc 57 args).run Try.prog w = .ok (.enter 57 args) w := enters_of Try.func57 (by kernel_rfl) rfl
  have eN : ∀ args w, (callFunc 34 args).run Try.prog w = .ok (.enter 34 args) w := enters_of Try.func34 (by kernel_rfl) rfl
  have eW : ∀ args w, (callFunc 58 args).run Try.prog w = .ok (.enter 58 args) w := enters_of Try.func58 (by kernel_rfl) rfl
  obtain ⟨f0, e0⟩ : ∃ f0, f0 = upd f n ⟨key, val, 0, 0, 1⟩ := ⟨_, rfl⟩
  obtain ⟨hPre, hNew⟩ := hG.putNew (val := val) hf f0 e0
  have HCt : Hid (∀ g6 cap6 W, TS tb g6 (n + 1) cap6 root f0 W → Calls Try.prog 34 #[.pointer (some ⟨tb, 0, none⟩)] W fun e w' => e = .returned (.int .i64 n) ∧ w' = W) := hidb fun g6 cap6 W h1 => count_any tb g6 (n + 1) cap6 root f0 W h1 (by omega)
  have HW : Hid (∀ g6 cap6 W, TS tb g6 (n + 1) cap6 root f0 W → Calls Try.prog 58 #[.pointer (some ⟨tb, 0, none⟩), .int .i64 root, .int .i64 n] W fun e w' => ∃ q : Nat, e = .returned (.int .i64 q) ∧ Hid (∃ f' T', Ins f0 f' T T' n ∧ T'.top = q ∧ TS tb g6 (n + 1) cap6 root f' w' ∧ Kg g6 W w')) := hidb fun g6 cap6 W h1 => by
    have := with_any tb g6 (n + 1) cap6 root f0 n (by omega) (by omega) T W h1 hPre (fun q hq => by have := hG.hm q hq; omega) (by have := hG.len; omega)
    rw [← hG.top] at this
    exact this
  have HE : Hid (∀ g6 cap6 w2 wc, Below w.heap.size w w2 → (TS tb g6 (n + 1) cap6 root f0 wc ∧ (g6 = g ∨ w2.heap.size ≤ g6) ∧ Kt (fun i => i = tb ∨ i = g) w2 wc) → ∀ (q : Nat) w8, (∃ f' T', Ins f0 f' T T' n ∧ T'.top = q ∧ TS tb g6 (n + 1) cap6 root f' w8 ∧ Kg g6 (wc.drewN 1) w8) →
      w8.cell? ⟨tb, 1, none⟩ = some (.int .i64 root) ∧ w8.frozen? ⟨tb, 1, none⟩ = false ∧ PutEnd tb g (putL L key val) w (.returned (.tuple #[])) (w8.setCell ⟨tb, 1, none⟩ (.int .i64 q))) := hidb fun g6 cap6 w2 wc hb ⟨_, x2, x3⟩ q w8 ⟨f', T', y1, y2, y3, y4⟩ => by
    subst y2
    have hsz := hb.size
    refine ⟨y3.c1, y3.frb 1, rfl, hidb ⟨g6, ⟨n + 1, cap6, _, f', T', y3.setRoot _, hNew f' T' y1⟩, x2.imp id fun h => Nat.le_trans hsz h, ?_⟩⟩
    have k1 : Kt (fun i => i = tb ∨ i = g) w (wc.drewN 1) := ((Kt.below hb).trans x3 fun _ _ x => x).drewN 1
    have k2 : Kt (fun i => i = tb ∨ i = g) w w8 := k1.trans (Kt.grown (S := fun i => i = g6) y4 rfl) fun i hi e => by
      rcases x2 with h | h
      · right; omega
      · omega
    exact k2.set fun _ => .inl rfl
  have E0 := hidb e0
  clear h hG hf hPre hNew e0
  go_enter Try.func36, Try.ntmps36
  go_wp2_with (first
    | (go_at_call 57; refine HC.out.mono ?_; clear HC; rintro e w1 ⟨rfl, hb1⟩; replace HF := hidb (HF.out w1 hb1); clear hb1)
    | (go_at_call 54; refine HF.out.mono ?_; clear HF; rintro e w2 ⟨rfl, K2⟩; obtain ⟨q2, c0, htb⟩ := HA.out w2 K2.out.1 w2 (Below.refl _ _); clear q2)
    | fail)
  go_cut [] (fun wx => ∃ g6 cap6, Hid (TS tb g6 (n + 1) cap6 root f0 wx ∧ (g6 = g ∨ w2.heap.size ≤ g6) ∧ Kt (fun i => i = tb ∨ i = g) w2 wx))
  case first =>
    go_region_law (first
      | (refine step_call2 (by rfl) 57 #[.tmp 27] #[9] (by rfl) eC #[sv key] (by rfl) _ (HC2.out _) ?_; rintro e w3 ⟨rfl, hb3⟩; refine ⟨_, rfl, ?_⟩; replace hb3 : Below w2.heap.size w2 w3 := (Below.refl _ w2).drew.trans hb3; obtain ⟨q3, c03, htb3⟩ := HA.out w2 K2.out.1 w3 hb3; have HT3 := hidb q3; clear q3; have HB3 := hidb hb3; clear hb3)
      | (refine step_appNw _ (by rfl) (.tmp 26) (.tmp 31) 88 (by rfl) elemN_node 0 g n cap (flat f n) (by rfl) (HT3.out.own.alloc _) ⟨_, 0, none⟩ 1 1 (by rfl) [sv key, sv val, .int .i64 0, .int .i64 0, .int .i64 1] (cells_newb _ [sv key, sv val, .int .i64 0, .int .i64 0, .int .i64 1] 96 _ rfl) rfl (by simp [Value.oneCell']) hwd1 hwd2 (Nat.zero_le _) ?_; intro v' w6 hr6 hs6; obtain ⟨g6, cap6, rfl, c6, z6, K6⟩ := app_step ⟨key, val, 0, 0, 1⟩ HT3.out hn1 hr6 hs6; clear hr6 hs6))
    all_goals
      go_wp2_with fail
      go_meet
      case rel =>
        obtain ⟨a1, a2, a3⟩ := K6.out
        rw [← E0.out] at a1
        exact ⟨g6, cap6, hidb ⟨a1, a2.imp id fun h => Nat.le_trans HB3.out.size h, (Kt.below HB3.out).trans a3 fun _ _ x => x⟩⟩
  case rest =>
    obtain ⟨g6, cap6, K6⟩ := hcut
    have c1 := K6.out.1.c1
    have HK := hidb (HCt.out g6 cap6)
    have HW2 := hidb (HW.out g6 cap6)
    have HN := hidb (HE.out g6 cap6 w2 wc K2.out.2 K6.out)
    clear HA HC2 eC HCt HW HE
    go_wp2_with fail
    go_region_law (first
      | (refine step_call2 (by rfl) 34 #[.tmp 41] #[57] (by rfl) eN #[.pointer (some ⟨tb, 0, none⟩)] (by rfl) _ (HK.out _ (K6.out.1.drewN 1)) ?_; rintro e w7 ⟨rfl, rfl⟩; refine ⟨_, rfl, ?_⟩)
      | (refine step_call2 (by rfl) 58 #[.tmp 36, .tmp 40, .tmp 42] #[57, 3, 3] (by rfl) eW #[.pointer (some ⟨tb, 0, none⟩), .int .i64 root, .int .i64 n] (by rfl) _ (HW2.out _ (K6.out.1.drewN 1)) ?_; rintro e w8 ⟨q8, rfl, K8⟩; refine ⟨_, rfl, ?_⟩; obtain ⟨d1, d2, K9⟩ := HN.out q8 w8 K8.out))
    all_goals
      go_end0
      exact K9

/-- put of any key and value. -/
theorem put_any (tb g : Nat) (L : Kvs) (w : World) (key val : Bt) (h : TreeAt tb g L w) (hk : key.length ≤ 281474976710656) (hv : val.length ≤ 281474976710656) (hroom : (L.length + 2) * 46 ≤ 140737488355328) :
    Calls Try.prog 36 #[.pointer (some ⟨tb, 0, none⟩), sv key, sv val] w (PutEnd tb g (putL L key val) w) := by
  obtain ⟨n, cap, root, f, T, h1, h2⟩ := h
  have hl : L.length + 1 = n := by rw [← h2.len, ← h2.kv, kvs, List.length_map]
  rcases h2.find key with ⟨a, _⟩ | ⟨a, b, _, d, _⟩
  · exact put_new tb g n cap root f T L w key val h1 h2 hk hv a (by omega)
  · exact put_old tb g n cap root f T L w key val h1 h2 hv _ rfl a b d
end Go.Proofs.Ytcjakgogdbfagaa
