/- Layer 11: the whole tree, what it holds; strings.Clone. A step law for a call of a Go function in a region that draws its order. Layer 11: the tree's put of a new key. -/
import Derived.Test.YtcjakgogdbfagaaDoorQI
import Derived.Test.YtcjakgogdbfagaaDoorShelfc
import Derived.Deep.RegionLaw
import Derived.Shelf.Abstract
import Derived.Test.YtcjakgogdbfagaaDoorPlain
import Derived.Deep.DeepCutAuto
namespace Go.Proofs.YtcjakgogdbfagaaDoor
open Go.RowKit
abbrev Kvs := List (Bt × Bt)
def SrtL (L : Kvs) : Prop := L.Pairwise fun a b => klt a.1 b.1
def kvs (f : Nat → Nd) (l : List Nat) : Kvs := l.map fun p => ((f p).k, (f p).v)
theorem kvs_kv {f g : Nat → Nd} (h : KV f g) (l : List Nat) : kvs g l = kvs f l := List.map_congr_left fun p _ => by rw [(h p).1, (h p).2]
theorem srt_kvs {f : Nat → Nd} {l : List Nat} : SrtL (kvs f l) ↔ Srt (keys f l) := by
  unfold SrtL Srt kvs keys
  rw [List.pairwise_map, List.pairwise_map]
/-- The tree's nodes and links tell these pairs. -/
structure Good (n root : Nat) (f : Nat → Nd) (T : Tr) (L : Kvs) : Prop where
  lk : Lk f T
  top : root = T.top
  nd : T.pl.Nodup
  mem : ∀ p, p ∈ T.pl ↔ 0 < p ∧ p < n
  len : T.pl.length + 1 = n
  z : f 0 = Nd.zero
  kv : kvs f T.pl = L
  srt : SrtL L
/-- A key's value. -/
def getL : Kvs → Bt → Option Bt
  | [], _ => none
  | (a, b) :: l, k => if a = k then some b else getL l k
/-- The least key above. -/
def nextL : Kvs → Bt → Option Bt
  | [], _ => none
  | (a, _) :: l, k => if klt k a then some a else nextL l k
/-- A key is given a value. -/
def putL : Kvs → Bt → Bt → Kvs
  | [], k, v => [(k, v)]
  | (a, b) :: l, k, v => if a = k then (k, v) :: l else if klt k a then (k, v) :: (a, b) :: l else (a, b) :: putL l k v
def delL (L : Kvs) (k : Bt) : Kvs := L.filter fun x => x.1 ≠ k
theorem getL_app {A B : Kvs} {k : Bt} (h : ∀ x ∈ A, x.1 ≠ k) : getL (A ++ B) k = getL B k := by
  induction A with
  | nil => rfl
  | cons x A ih =>
    obtain ⟨a, b⟩ := x
    rw [List.cons_append, getL, if_neg (h (a, b) (by simp))]
    exact ih fun y hy => h y (by simp [hy])
theorem getL_none {L : Kvs} {k : Bt} (h : ∀ x ∈ L, x.1 ≠ k) : getL L k = none := by
  have := getL_app (B := []) h
  rw [List.append_nil] at this
  exact this
theorem getL_mem {L : Kvs} {k v : Bt} : getL L k = some v → (k, v) ∈ L := by
  induction L with
  | nil => intro h; cases h
  | cons x L ih =>
    obtain ⟨a, b⟩ := x
    unfold getL
    split
    · intro h; injection h with h; subst h; rename_i e; subst e; simp
    · intro h; simp [ih h]
theorem getL_some {L : Kvs} (s : SrtL L) {k v : Bt} (h : (k, v) ∈ L) : getL L k = some v := by
  induction L with
  | nil => cases h
  | cons x L ih =>
    obtain ⟨a, b⟩ := x
    rw [SrtL, List.pairwise_cons] at s
    unfold getL
    rcases List.mem_cons.1 h with e | e
    · injection e with e1 e2; rw [if_pos e1.symm, e2]
    · rw [if_neg (klt_ne (s.1 _ e)), ih s.2 e]
/-- What find comes to. -/
theorem Good.find {n root : Nat} {f : Nat → Nd} {T : Tr} {L : Kvs} (h : Good n root f T L) (key : Bt) : (T.find f key = 0 ∧ getL L key = none) ∨ (T.find f key ≠ 0 ∧ T.find f key ∈ T.pl ∧ T.find f key < n ∧ (f (T.find f key)).k = key ∧ getL L key = some (f (T.find f key)).v) := by
  have hs : Srt (keys f T.pl) := srt_kvs.1 (by rw [h.kv]; exact h.srt)
  rcases find_spec (key := key) h.lk hs with ⟨a, b⟩ | ⟨a, b, c⟩
  · refine .inl ⟨a, getL_none fun x hx e => b ?_⟩
    rw [← h.kv, kvs, List.mem_map] at hx
    obtain ⟨p, hp, rfl⟩ := hx
    exact List.mem_map.2 ⟨p, hp, e⟩
  · refine .inr ⟨b, a, ((h.mem _).1 a).2, c, getL_some h.srt ?_⟩
    rw [← h.kv]
    refine List.mem_map.2 ⟨_, a, ?_⟩
    rw [c]
theorem Good.hm {n root : Nat} {f : Nat → Nd} {T : Tr} {L : Kvs} (h : Good n root f T L) : ∀ p ∈ T.pl, p < n := fun p hp => ((h.mem p).1 hp).2
theorem Good.pos {n root : Nat} {f : Nat → Nd} {T : Tr} {L : Kvs} (h : Good n root f T L) : 0 < n := by have := h.len; omega
theorem Good.findlt {n root : Nat} {f : Nat → Nd} {T : Tr} {L : Kvs} (h : Good n root f T L) (key : Bt) : T.find f key < n := by
  rcases h.find key with ⟨a, _⟩ | ⟨_, _, a, _⟩
  · rw [a]; exact h.pos
  · exact a
theorem nextL_skip {A B : Kvs} {k : Bt} (h : ∀ x ∈ A, ¬ klt k x.1) : nextL (A ++ B) k = nextL B k := by
  induction A with
  | nil => rfl
  | cons x A ih =>
    obtain ⟨a, b⟩ := x
    rw [List.cons_append, nextL, if_neg (h (a, b) (by simp))]
    exact ih fun y hy => h y (by simp [hy])
/-- What above comes to. -/
theorem Good.above {n root : Nat} {f : Nat → Nd} {T : Tr} {L : Kvs} (h : Good n root f T L) (key : Bt) : (T.above f key 0 = 0 ∧ nextL L key = none) ∨ (T.above f key 0 ≠ 0 ∧ T.above f key 0 < n ∧ nextL L key = some (f (T.above f key 0)).k) := by
  have hs : Srt (keys f T.pl) := srt_kvs.1 (by rw [h.kv]; exact h.srt)
  rcases above_spec (key := key) 0 hs with ⟨a, b⟩ | ⟨A, q, B, e1, e2, e3, e4⟩
  · refine .inl ⟨a, ?_⟩
    have : nextL (L ++ []) key = nextL [] key := nextL_skip fun x hx => by
      rw [← h.kv, kvs, List.mem_map] at hx
      obtain ⟨p, hp, rfl⟩ := hx
      exact b p hp
    rw [List.append_nil] at this
    exact this
  · have hq : q ∈ T.pl := by rw [e1]; simp
    refine .inr ⟨by rw [e2]; exact h.lk.ne q hq, by rw [e2]; exact h.hm q hq, ?_⟩
    rw [e2, ← h.kv, e1, kvs, List.map_append, List.map_cons, nextL_skip, nextL, if_pos e3]
    intro x hx
    obtain ⟨p, hp, rfl⟩ := List.mem_map.1 hx
    exact e4 p hp
theorem strings_clone (s : Bt) (w : World) (hs : s.length ≤ 281474976710656) : Calls Tryd.prog 52 #[sv s] w fun e w' => e = .returned (sv s) ∧ Below w.heap.size w w' := by
  have hc := hidb (Tryd.stringslite_Clone ⟨s.toArray⟩ w (by show s.toArray.size ≤ _; simpa using hs))
  go_enter Tryd.func52, Tryd.ntmps52
  go_wp2_with (go_at_call 69; refine hc.out.mono ?_; clear hc; rintro e w' ⟨rfl, hb⟩)
  go_ret
  exact ⟨rfl, hb⟩
/-- Of what was there nothing turns but blocks of S. -/
structure Kt (S : Nat → Prop) (w w' : World) : Prop where
  os : w'.os = w.os
  tape : w'.tape = w.tape
  output : w'.output = w.output
  size : w.heap.size ≤ w'.heap.size
  block : ∀ i < w.heap.size, ¬ S i → w'.heap[i]? = w.heap[i]?
theorem Kt.refl (S : Nat → Prop) (w : World) : Kt S w w := ⟨rfl, rfl, rfl, Nat.le_refl _, fun _ _ _ => rfl⟩
theorem Kt.mono {S R : Nat → Prop} {w w' : World} (h : Kt S w w') (k : ∀ i < w.heap.size, S i → R i) : Kt R w w' := ⟨h.os, h.tape, h.output, h.size, fun i hi hn => h.block i hi fun x => hn (k i hi x)⟩
theorem Kt.trans {S R : Nat → Prop} {a b c : World} (h : Kt S a b) (k : Kt R b c) (m : ∀ i < a.heap.size, R i → S i) : Kt S a c :=
  ⟨k.os.trans h.os, k.tape.trans h.tape, k.output.trans h.output, Nat.le_trans h.size k.size, fun i hi hn => (k.block i (Nat.lt_of_lt_of_le hi h.size) fun x => hn (m i hi x)).trans (h.block i hi hn)⟩
theorem Kt.grown {g : Nat} {w w' : World} {S : Nat → Prop} (h : Kg g w w') (hs : S g) : Kt S w w' := ⟨h.os, h.tape, h.output, h.size, fun i hi hn => h.block i hi fun e => hn (by injection e with e; exact e ▸ hs)⟩
theorem Kt.below {w w' : World} {S : Nat → Prop} (h : Below w.heap.size w w') : Kt S w w' := ⟨h.os, h.tape, h.output, h.size, fun i hi _ => h.block i hi⟩
theorem Kt.drewN {S : Nat → Prop} {w w' : World} (h : Kt S w w') (M : Nat) : Kt S w (w'.drewN M) := ⟨h.os, h.tape, h.output, h.size, h.block⟩
theorem Kt.set {S : Nat → Prop} {w w' : World} (h : Kt S w w') {b j : Nat} {v : Value} (hb : b < w.heap.size → S b) : Kt S w (w'.setCell ⟨b, j, none⟩ v) :=
  ⟨h.os, h.tape, h.output, by rw [World.size_setCell]; exact h.size, fun i hi hn => (Below.heap_setCell _ _ _ _ (fun e => hn (by subst e; exact hb hi))).trans (h.block i hi hn)⟩
/-- The tree at tb holds these pairs; its nodes lie at g. -/
def TreeAt (tb g : Nat) (L : Kvs) (w : World) : Prop := ∃ n cap root f T, TS tb g n cap root f w ∧ Good n root f T L
theorem putL_old {A B : Kvs} {k v u : Bt} (h : ∀ x ∈ A, klt x.1 k) : putL (A ++ (k, v) :: B) k u = A ++ (k, u) :: B := by
  induction A with
  | nil => simp [putL]
  | cons x A ih =>
    obtain ⟨a, b⟩ := x
    have ha := h (a, b) (by simp)
    rw [List.cons_append, putL, if_neg (klt_ne ha), if_neg (klt_asymm ha), ih fun y hy => h y (by simp [hy])]
    rfl
theorem putL_new {A B : Kvs} {k u : Bt} (h : ∀ x ∈ A, klt x.1 k) (h2 : ∀ x ∈ B, klt k x.1) : putL (A ++ B) k u = A ++ (k, u) :: B := by
  induction A with
  | nil =>
    cases B with
    | nil => rfl
    | cons x B =>
      obtain ⟨a, b⟩ := x
      have hb := h2 (a, b) (by simp)
      rw [List.nil_append, putL, if_neg (klt_ne hb).symm, if_pos hb]
      rfl
  | cons x A ih =>
    obtain ⟨a, b⟩ := x
    have ha := h (a, b) (by simp)
    rw [List.cons_append, putL, if_neg (klt_ne ha), if_neg (klt_asymm ha), ih fun y hy => h y (by simp [hy])]
    rfl
theorem mem_split {l : List Nat} {p : Nat} (h : p ∈ l) : ∃ A B, l = A ++ p :: B := List.append_of_mem h
theorem Good.putOld {n root : Nat} {f : Nat → Nd} {T : Tr} {L : Kvs} (h : Good n root f T L) {key val : Bt} {p : Nat} (hp : p ∈ T.pl) (hk : (f p).k = key) : Good n root (upd f p { f p with v := val }) T (putL L key val) := by
  obtain ⟨A, B, e⟩ := mem_split hp
  have nd := h.nd
  rw [e, List.nodup_append, List.nodup_cons] at nd
  have hp0 := h.lk.ne p hp
  have same : ∀ q, (upd f p { f p with v := val } q).k = (f q).k ∧ (upd f p { f p with v := val } q).l = (f q).l ∧ (upd f p { f p with v := val } q).r = (f q).r ∧ (upd f p { f p with v := val } q).h = (f q).h := fun q => by
    unfold upd
    split
    · rename_i e; subst e; exact ⟨rfl, rfl, rfl, rfl⟩
    · exact ⟨rfl, rfl, rfl, rfl⟩
  have hA : kvs (upd f p { f p with v := val }) A = kvs f A := List.map_congr_left fun q hq => by rw [upd_other _ _ (show q ≠ p from fun x => nd.2.2 q hq p (by simp) x)]
  have hB : kvs (upd f p { f p with v := val }) B = kvs f B := List.map_congr_left fun q hq => by rw [upd_other _ _ (show q ≠ p from fun x => nd.2.1.1 (x ▸ hq))]
  have hs := h.srt
  have hL : L = kvs f A ++ (key, (f p).v) :: kvs f B := by rw [← h.kv, e, kvs, List.map_append, List.map_cons, hk]; rfl
  rw [hL, SrtL, List.pairwise_append] at hs
  have hkv : kvs (upd f p { f p with v := val }) T.pl = putL L key val := by
    rw [hL, putL_old fun x hx => hs.2.2 x hx (key, (f p).v) (by simp), e, kvs, List.map_append, List.map_cons, upd_same, ← hA, ← hB, ← hk]
    rfl
  refine ⟨?_, h.top, h.nd, h.mem, h.len, by rw [upd_other _ _ (Ne.symm hp0)]; exact h.z, hkv, ?_⟩
  · have : ∀ S : Tr, Lk f S → Lk (upd f p { f p with v := val }) S := fun S => by
      induction S with
      | e => exact fun _ => trivial
      | n l q r il ir => exact fun ⟨a, b, c, d, x, y, z⟩ => ⟨il a, ir b, by rw [(same q).2.1]; exact c, by rw [(same q).2.2.1]; exact d, x, by rw [(same q).2.2.2]; exact y, by rw [(same q).2.2.2]; exact z⟩
    exact this T h.lk
  · rw [← hkv, srt_kvs]
    have := h.srt
    rw [← h.kv, srt_kvs] at this
    rw [show keys (upd f p { f p with v := val }) T.pl = keys f T.pl from List.map_congr_left fun q _ => (same q).1]
    exact this
/-- What put leaves. -/
def PutEnd (tb g : Nat) (L' : Kvs) (w : World) (e : Ending) (w' : World) : Prop := e = .returned (.tuple #[]) ∧ Hid (∃ g', TreeAt tb g' L' w' ∧ (g' = g ∨ w.heap.size ≤ g') ∧ Kt (fun i => i = tb ∨ i = g) w w')
set_option maxRecDepth 100000 in
set_option maxHeartbeats 1000000 in
theorem put_old (tb g n cap root : Nat) (f : Nat → Nd) (T : Tr) (L : Kvs) (w : World) (key val : Bt) (h : TS tb g n cap root f w) (hG : Good n root f T L) (hv : val.length ≤ 281474976710656) (p : Nat) (hf : T.find f key = p) (hp0 : p ≠ 0) (hp : p ∈ T.pl) (hk : (f p).k = key) :
    Calls Tryd.prog 32 #[.pointer (some ⟨tb, 0, none⟩), sv key, sv val] w (PutEnd tb g (putL L key val) w) := by
  have HC := hidb (strings_clone val w hv)
  have hlt := h.lt
  have hpn := hG.hm p hp
  have HF : Hid (∀ W, Below w.heap.size w W → Calls Tryd.prog 51 #[.pointer (some ⟨tb, 0, none⟩), sv key] W fun e w' => e = .returned (.int .i64 p) ∧ Hid (TS tb g n cap root f w' ∧ Below w.heap.size w w')) := hidb fun W hb => by
    have h1 := h.keep (hb.block _ h.ltb) (hb.block _ h.ltg)
    have := find_any tb g n cap root f T W key h1 hG.lk hG.top hG.hm
    rw [hf] at this
    refine this.mono fun e w' ⟨x, m, y⟩ => ⟨x, ?_⟩
    subst y
    exact hidb ⟨h1.drewN m, below_drewN hb m⟩
  have HE : Hid (∀ W, TS tb g n cap root f W → Below w.heap.size w W → PutEnd tb g (putL L key val) w (.returned (.tuple #[])) (W.setCell ⟨g, p * 5 + 1, none⟩ (sv val))) := hidb fun W h1 h2 => ⟨rfl, hidb ⟨g, ⟨n, cap, root, _, T, h1.setV hpn, hG.putOld hp hk⟩, .inl rfl, (Kt.below h2).set fun _ => .inr rfl⟩⟩
  have hz : ((p : Int) == 0) = false := by simpa using hp0
  clear h hG hf hp hk
  go_enter Tryd.func32, Tryd.ntmps32
  go_wp2_with (first
    | (go_at_call 52; refine HC.out.mono ?_; clear HC; rintro e w1 ⟨rfl, hb1⟩; replace HF := hidb (HF.out w1 hb1); clear hb1)
    | (go_at_call 51; refine HF.out.mono ?_; clear HF; rintro e w2 ⟨rfl, K2⟩; replace HE := hidb (HE.out w2 K2.out.1 K2.out.2); have c0 := K2.out.1.c0; have cv := K2.out.1.v hpn; have cf := K2.out.1.fr (p * 5 + 1); clear K2)
    | fail)
  go_end0
  exact HE.out
end Go.Proofs.YtcjakgogdbfagaaDoor
namespace Go.Proofs.YtcjakgogdbfagaaDoor
open Go.RowKit
theorem step_call2 {P : Program} {ops : Array Oper} {o : Oper} {a : Act} {w : World} {K : Act → World → Prop} {Q : Exit → Act → World → Prop} {X : Prop} (hgd : o.guard = none) (f : FuncId) (xs : Array Operand) (ts : Array TypeId)
    (ho : o.op = .call { callee := .value (.func f), args := xs, argTypes := ts }) (eg : ∀ args w, (callFunc f args).run P w = .ok (.enter f args) w) (args : Array Value) (hargs0 : xs.toList.map a.eval = args.toList) (post : Ending → World → Prop)
    (h : Calls P f args w post) (hp : ∀ e w', post e w' → ∃ v, e = .returned v ∧ K (a.put o.dst v) w') : if Region.wanted o (yielded ops a.tmps) = true then Oper.wp P o a w K Q else X := by
  have hw : Region.wanted o (yielded ops a.tmps) = true := by simp [Region.wanted, hgd]
  have hargs : xs.map a.eval = args := by
    apply Array.toList_inj.1
    rw [Array.toList_map]
    exact hargs0
  rw [if_pos hw]
  unfold Oper.wp
  have e1 : (execOp a.eval o).run P w = .ok (.enter f args) w := by
    unfold execOp
    simp [ho, resolve, invoke, go_sem, eg, hargs]
  rw [e1]
  refine h.mono fun e w' hpost => ?_
  obtain ⟨v, rfl, hk⟩ := hp e w' hpost
  exact hk

end Go.Proofs.YtcjakgogdbfagaaDoor
namespace Go.Proofs.YtcjakgogdbfagaaDoor
open Go.RowKit
def Nd.row (x : Nd) : List Value := [sv x.k, sv x.v, .int .i64 x.l, .int .i64 x.r, .int .i64 x.h]
def flat (f : Nat → Nd) : Nat → List Value
  | 0 => []
  | n + 1 => flat f n ++ (f n).row
theorem flat_len (f : Nat → Nd) : ∀ n, (flat f n).length = n * 5
  | 0 => rfl
  | n + 1 => by rw [flat, List.length_append, flat_len f n]; show n * 5 + 5 = _; omega
theorem Nd.row_c (x : Nd) {k : Nat} (h : k < 5) : x.row[k]? = some (x.c k) := by rcases cases5 h with rfl | rfl | rfl | rfl | rfl <;> rfl
theorem flat_at (f : Nat → Nd) {p k : Nat} (hk : k < 5) : ∀ n, p < n → (flat f n)[p * 5 + k]? = some ((f p).c k)
  | 0, h => by cases h
  | n + 1, h => by
    rw [flat]
    by_cases e : p = n
    · subst e
      rw [List.getElem?_append_right (by rw [flat_len]; omega), flat_len, show p * 5 + k - p * 5 = k by omega, Nd.row_c _ hk]
    · rw [List.getElem?_append_left (by rw [flat_len]; omega)]
      exact flat_at f hk n (by omega)
theorem flat_ext {f g : Nat → Nd} : ∀ n, (∀ p < n, g p = f p) → flat g n = flat f n
  | 0, _ => rfl
  | n + 1, h => by rw [flat, flat, flat_ext n fun p hp => h p (by omega), h n (by omega)]
theorem flat_eq {f : Nat → Nd} {n : Nat} {l : List Value} (hl : l.length = n * 5) (h : ∀ p < n, ∀ k < 5, l[p * 5 + k]? = some ((f p).c k)) : l = flat f n := by
  apply List.ext_getElem?
  intro i
  by_cases hi : i < n * 5
  · have e : i = i / 5 * 5 + i % 5 := by omega
    rw [e, h (i / 5) (by omega) (i % 5) (by omega), flat_at f (by omega) n (by omega)]
  · rw [List.getElem?_eq_none (by omega), List.getElem?_eq_none (by rw [flat_len]; omega)]
theorem TS.own {tb g n cap root : Nat} {f : Nat → Nd} {w : World} (h : TS tb g n cap root f w) : w.ownsRow 0 88 5 (.slice (some ⟨g, 0, none⟩) n cap) n (flat f n) := by
  obtain ⟨cur, h1, h2, h3, h4⟩ := h.nb
  refine ⟨flat_len f n, .inr ⟨g, cap, cur, rfl, Nat.zero_le _, h1, h3, h.cm, h2, ?_⟩⟩
  refine flat_eq ?_ fun p hp k hk => ?_
  · rw [List.length_take, Array.length_toList, h2]; omega
  · rw [List.getElem?_take_of_lt (by omega), Array.getElem?_toList]
    exact h4 p hp k hk
theorem NB.of {w : World} {g n cap : Nat} {f : Nat → Nd} (h : w.ownsRow 0 88 5 (.slice (some ⟨g, 0, none⟩) n cap) n (flat f n)) : NB w g n cap f ∧ cap ≤ maxLen := by
  rcases h.2 with ⟨e, _⟩ | ⟨g', cap', cur, e, _, h1, h3, hc, h2, ht⟩
  · cases e
  · injection e with e1 _ e3
    injection e1 with e1
    injection e1 with e1
    subst e1; subst e3
    refine ⟨⟨cur, h1, h2, h3, fun p hp k hk => ?_⟩, hc⟩
    have := flat_at f hk n hp
    rw [← ht, List.getElem?_take_of_lt (by omega), Array.getElem?_toList] at this
    exact this
theorem elemN_node : ElemN Tryd.prog 55 88 5 56 := by
  refine ⟨Tryd.underlying55, ?_, by decide⟩
  obtain ⟨i, hi, h1, h2, h3⟩ := info_parts (show (Tryd.prog.info? 88).map (fun i => (i.zero, i.size, i.bytes)) = some (some (.agg #[.string ⟨#[]⟩, .string ⟨#[]⟩, .int .i64 0, .int .i64 0, .int .i64 0]), 5, 56) by kernel_rfl)
  exact ⟨i, _, hi, h1, h2, h3, rfl⟩
theorem cells_newb (W : World) (xs : List Value) (t : TypeId) (B : Nat) (hB : W.heap.size = B) : ∀ j u, xs[j]? = some u → (W.alloc (.cells xs.toArray t)).cell? ((⟨B, 0, none⟩ : Addr).add j) = some u := by
  subst hB
  intro j u hu
  rw [Addr.add_lit, Lib.cell_of_heap (heap_alloc_new W (.cells xs.toArray t))]
  simpa using hu
theorem app_step {tb g n cap root : Nat} {f : Nat → Nd} {W w6 : World} {o : Obj} {v' : Value} (x : Nd) (h : TS tb g n cap root f W) (hn : n + 1 ≤ 4398046511104) (hr6 : w6.ownsRow 0 88 5 v' (n + 1) (flat f n ++ x.row)) (hs6 : Step (W.alloc o) (.slice (some ⟨g, 0, none⟩) n cap) w6 v') :
    ∃ g6 cap6, v' = .slice (some ⟨g6, 0, none⟩) (n + 1) cap6 ∧ w6.cell? ⟨tb, 0, none⟩ = some (.slice (some ⟨g, 0, none⟩) n cap) ∧ w6.frozen? ⟨tb, 0, none⟩ = false ∧
      Hid (TS tb g6 (n + 1) cap6 root (upd f n x) (w6.setCell ⟨tb, 0, none⟩ (.slice (some ⟨g6, 0, none⟩) (n + 1) cap6)) ∧ (g6 = g ∨ W.heap.size ≤ g6) ∧ Kt (fun i => i = tb ∨ i = g) W (w6.setCell ⟨tb, 0, none⟩ (.slice (some ⟨g6, 0, none⟩) (n + 1) cap6))) := by
  obtain ⟨g6, cap6, e⟩ : ∃ g6 cap6, v' = .slice (some ⟨g6, 0, none⟩) (n + 1) cap6 := by
    rcases hr6.2 with ⟨_, e⟩ | ⟨g6, cap6, cur, e, _⟩
    · omega
    · exact ⟨g6, cap6, e⟩
  subst e
  have hsz : (W.alloc o).heap.size = W.heap.size + 1 := by simp
  have hbox : w6.heap[tb]? = W.heap[tb]? := (hs6.1.block tb (by have := h.ltb; omega) (by simp [Value.ownBlock]; exact h.ne)).trans (Below.heap_alloc _ _ _ h.ltb)
  have hb6 := hbox.trans h.box
  have hg6 : g6 = g ∨ W.heap.size + 1 ≤ g6 := by
    rcases hs6.2 with e | ⟨q, e, hq⟩
    · simp [Value.ownBlock] at e; exact .inl e
    · simp [Value.ownBlock] at e; subst e; exact .inr (by omega)
  have hne : tb ≠ g6 := by rcases hg6 with e | e; exact e ▸ h.ne; have := h.ltb; omega
  have ef : flat f n ++ x.row = flat (upd f n x) (n + 1) := by
    rw [flat, upd_same, flat_ext (f := f) n fun p hp => upd_other _ _ (by omega)]
  rw [ef] at hr6
  obtain ⟨nb, hcm⟩ := NB.of hr6
  refine ⟨g6, cap6, rfl, by rw [Lib.cell_of_heap hb6]; rfl, Lib.frozen_of_heap hb6 0, hidb ⟨⟨?_, ?_, hne, hcm, hn⟩, ?_, ?_⟩⟩
  · rw [heap_setCell_same _ _ _ _ _ _ hb6]; rfl
  · obtain ⟨cur, n1, n2⟩ := nb
    exact ⟨cur, (Below.heap_setCell _ _ _ _ (Ne.symm hne)).trans n1, n2⟩
  · rcases hg6 with e | e
    · exact .inl e
    · exact .inr (by omega)
  · have k : Kt (fun i => i = tb ∨ i = g) W w6 := ⟨hs6.1.os, hs6.1.tape, hs6.1.output, by have := hs6.1.size; omega, fun i hi hn => (hs6.1.block i (by omega) (by simp [Value.ownBlock]; exact fun e => hn (.inr e))).trans (Below.heap_alloc _ _ _ hi)⟩
    exact k.set fun _ => .inl rfl
theorem Good.putNew {n root : Nat} {f : Nat → Nd} {T : Tr} {L : Kvs} (h : Good n root f T L) {key val : Bt} (hf : T.find f key = 0) (f0 : Nat → Nd) (e0 : f0 = upd f n ⟨key, val, 0, 0, 1⟩) :
    WPre f0 T n ∧ ∀ f' T', Ins f0 f' T T' n → Good (n + 1) T'.top f' T' (putL L key val) := by
  have hpos := h.pos
  have hnT : n ∉ T.pl := fun e => by have := h.hm n e; omega
  have ext : ∀ p ∈ T.pl, f0 p = f p := fun p hp => by rw [e0]; exact upd_other _ _ (by have := h.hm p hp; omega)
  have en : f0 n = ⟨key, val, 0, 0, 1⟩ := by rw [e0, upd_same]
  have e00 : f0 0 = Nd.zero := by rw [e0, upd_other _ _ (by omega)]; exact h.z
  have hs0 : Srt (keys f0 T.pl) := by
    rw [show keys f0 T.pl = keys f T.pl from List.map_congr_left fun p hp => by rw [ext p hp]]
    exact srt_kvs.1 (by rw [h.kv]; exact h.srt)
  have hne : key ∉ keys f T.pl := by
    rcases find_spec (key := key) h.lk (srt_kvs.1 (by rw [h.kv]; exact h.srt)) with ⟨_, b⟩ | ⟨_, b, _⟩
    · exact b
    · exact absurd hf b
  have hne0 : (f0 n).k ∉ keys f0 T.pl := by
    rw [en, show keys f0 T.pl = keys f T.pl from List.map_congr_left fun p hp => by rw [ext p hp]]
    exact hne
  refine ⟨⟨List.nodup_cons.2 ⟨hnT, h.nd⟩, h.lk.ext ext, by rw [e00]; rfl, by rw [en]; exact ⟨rfl, rfl, rfl, by omega⟩, hs0, hne0⟩, fun f' T' i => ?_⟩
  obtain ⟨A, B, x1, x2, x3, x4⟩ := i.ex
  have mem : ∀ p, p ∈ T'.pl ↔ p = n ∨ p ∈ T.pl := fun p => by rw [x2, x1]; exact mem_ins
  have kvT : kvs f' T.pl = L := by
    rw [kvs_kv i.kv, ← h.kv]
    exact List.map_congr_left fun p hp => by rw [ext p hp]
  have hkn : (f' n).k = key ∧ (f' n).v = val := by rw [(i.kv n).1, (i.kv n).2, en]; exact ⟨rfl, rfl⟩
  have hA : ∀ x ∈ kvs f' A, klt x.1 key := fun x hx => by
    obtain ⟨p, hp, rfl⟩ := List.mem_map.1 hx
    have := x3 p hp
    rw [en] at this
    rw [(i.kv p).1]
    exact this
  have hB : ∀ x ∈ kvs f' B, klt key x.1 := fun x hx => by
    obtain ⟨p, hp, rfl⟩ := List.mem_map.1 hx
    have := x4 p hp
    rw [en] at this
    rw [(i.kv p).1]
    exact this
  have hL : L = kvs f' A ++ kvs f' B := by rw [← kvT, x1, kvs, List.map_append]; rfl
  have hkv : kvs f' T'.pl = kvs f' A ++ (key, val) :: kvs f' B := by rw [x2, kvs, List.map_append, List.map_cons, hkn.1, hkn.2]; rfl
  have hput : putL L key val = kvs f' A ++ (key, val) :: kvs f' B := by rw [hL]; exact putL_new hA hB
  refine ⟨i.lk, rfl, ?_, fun p => ?_, ?_, ?_, by rw [hkv, hput], ?_⟩
  · rw [x2]
    have nd := h.nd
    rw [x1] at nd hnT
    simp only [List.mem_append, not_or] at hnT
    rw [List.nodup_append] at nd ⊢
    exact ⟨nd.1, List.nodup_cons.2 ⟨hnT.2, nd.2.1⟩, fun a ha b hb => by
      rcases List.mem_cons.1 hb with rfl | hb
      · exact fun e => hnT.1 (e ▸ ha)
      · exact nd.2.2 a ha b hb⟩
  · rw [mem, h.mem]; omega
  · have := h.len
    rw [x1, List.length_append] at this
    rw [x2, List.length_append, List.length_cons]
    omega
  · rw [i.out 0, e00]
    simp only [List.mem_cons, not_or]
    exact ⟨by omega, fun e => h.lk.ne 0 e rfl⟩
  · have hs := h.srt
    rw [hL, SrtL, List.pairwise_append] at hs
    rw [hput, SrtL, List.pairwise_append, List.pairwise_cons]
    refine ⟨hs.1, ⟨fun x hx => hB x hx, hs.2.1⟩, fun x hx y hy => ?_⟩
    rcases List.mem_cons.1 hy with rfl | hy
    · exact hA x hx
    · exact hs.2.2 x hx y hy
theorem TS.setRoot {tb g n cap root : Nat} {f : Nat → Nd} {w : World} (h : TS tb g n cap root f w) (q : Nat) : TS tb g n cap q f (w.setCell ⟨tb, 1, none⟩ (.int .i64 q)) := by
  obtain ⟨cur, h1, h2⟩ := h.nb
  exact ⟨by rw [heap_setCell_same _ _ _ _ _ _ h.box]; rfl, ⟨cur, (Below.heap_setCell _ _ _ _ (Ne.symm h.ne)).trans h1, h2⟩, h.ne, h.cm, h.lt⟩
set_option maxRecDepth 100000 in
set_option maxHeartbeats 1000000 in
theorem put_new (tb g n cap root : Nat) (f : Nat → Nd) (T : Tr) (L : Kvs) (w : World) (key val : Bt) (h : TS tb g n cap root f w) (hG : Good n root f T L) (hk : key.length ≤ 281474976710656) (hv : val.length ≤ 281474976710656) (hf : T.find f key = 0) (hroom : (n + 1) * 56 ≤ 140737488355328) :
    Calls Tryd.prog 32 #[.pointer (some ⟨tb, 0, none⟩), sv key, sv val] w (PutEnd tb g (putL L key val) w) := by
  have HC := hidb (strings_clone val w hv)
  have HC2 := hidb fun W => strings_clone key W hk
  have hlt := h.lt
  have HF : Hid (∀ W, Below w.heap.size w W → Calls Tryd.prog 51 #[.pointer (some ⟨tb, 0, none⟩), sv key] W fun e w' => e = .returned (.int .i64 0) ∧ Hid (TS tb g n cap root f w' ∧ Below w.heap.size w w')) := hidb fun W hb => by
    have h1 := h.keep (hb.block _ h.ltb) (hb.block _ h.ltg)
    have := find_any tb g n cap root f T W key h1 hG.lk hG.top hG.hm
    rw [hf] at this
    refine this.mono fun e w' ⟨x, m, y⟩ => ⟨x, ?_⟩
    subst y
    exact hidb ⟨h1.drewN m, below_drewN hb m⟩
  have HA : Hid (∀ W, TS tb g n cap root f W → ∀ B, Below W.heap.size W B → TS tb g n cap root f B ∧ B.cell? ⟨tb, 0, none⟩ = some (.slice (some ⟨g, 0, none⟩) n cap) ∧ tb < B.heap.size) := hidb fun W h1 B hb => by
    have h2 := h1.keep (hb.block _ h1.ltb) (hb.block _ h1.ltg)
    exact ⟨h2, h2.c0, h2.ltb⟩
  have hn1 : n + 1 ≤ 4398046511104 := by omega
  have eC : ∀ args w, (callFunc 52 args).run Tryd.prog w = .ok (.enter 52 args) w := enters_of Tryd.func52 (by kernel_rfl) rfl
  have eN : ∀ args w, (callFunc 31 args).run Tryd.prog w = .ok (.enter 31 args) w := enters_of Tryd.func31 (by kernel_rfl) rfl
  have eW : ∀ args w, (callFunc 53 args).run Tryd.prog w = .ok (.enter 53 args) w := enters_of Tryd.func53 (by kernel_rfl) rfl
  obtain ⟨f0, e0⟩ : ∃ f0, f0 = upd f n ⟨key, val, 0, 0, 1⟩ := ⟨_, rfl⟩
  obtain ⟨hPre, hNew⟩ := hG.putNew (val := val) hf f0 e0
  have HCt : Hid (∀ g6 cap6 W, TS tb g6 (n + 1) cap6 root f0 W → Calls Tryd.prog 31 #[.pointer (some ⟨tb, 0, none⟩)] W fun e w' => e = .returned (.int .i64 n) ∧ w' = W) := hidb fun g6 cap6 W h1 => count_any tb g6 (n + 1) cap6 root f0 W h1 (by omega)
  have HW : Hid (∀ g6 cap6 W, TS tb g6 (n + 1) cap6 root f0 W → Calls Tryd.prog 53 #[.pointer (some ⟨tb, 0, none⟩), .int .i64 root, .int .i64 n] W fun e w' => ∃ q : Nat, e = .returned (.int .i64 q) ∧ Hid (∃ f' T', Ins f0 f' T T' n ∧ T'.top = q ∧ TS tb g6 (n + 1) cap6 root f' w' ∧ Kg g6 W w')) := hidb fun g6 cap6 W h1 => by
    have := with_any tb g6 (n + 1) cap6 root f0 n (by omega) (by omega) T W h1 hPre (fun q hq => by have := hG.hm q hq; omega) (by have := hG.len; omega)
    rw [← hG.top] at this
    exact this
  have HE : Hid (∀ g6 cap6 w2 wc, Below w.heap.size w w2 → (TS tb g6 (n + 1) cap6 root f0 wc ∧ (g6 = g ∨ w2.heap.size ≤ g6) ∧ Kt (fun i => i = tb ∨ i = g) w2 wc) → ∀ (q : Nat) w8, (∃ f' T', Ins f0 f' T T' n ∧ T'.top = q ∧ TS tb g6 (n + 1) cap6 root f' w8 ∧ Kg g6 (wc.drewN 1) w8) →
      w8.cell? ⟨tb, 1, none⟩ = some (.int .i64 root) ∧ w8.frozen? ⟨tb, 1, none⟩ = false ∧ PutEnd tb g (putL L key val) w (.returned (.tuple #[])) (w8.setCell ⟨tb, 1, none⟩ (.int .i64 q))) := hidb fun g6 cap6 w2 wc hb ⟨_, x2, x3⟩ q w8 ⟨f', T', y1, y2, y3, y4⟩ => by
    subst y2
    have hsz := hb.size
    refine ⟨y3.c1, y3.frb 1, rfl, hidb ⟨g6, ⟨n + 1, cap6, _, f', T', y3.setRoot _, hNew f' T' y1⟩, x2.imp id fun h => Nat.le_trans hsz h, ?_⟩⟩
    have k1 : Kt (fun i => i = tb ∨ i = g) w (wc.drewN 1) := ((Kt.below hb).trans x3 fun _ _ x => x).drewN 1
    have k2 : Kt (fun i => i = tb ∨ i = g) w w8 := k1.trans (Kt.grown (S := fun i => i = g6) y4 rfl) fun i hi e => by
      rcases x2 with h | h
      · right; omega
      · omega
    exact k2.set fun _ => .inl rfl
  have E0 := hidb e0
  clear h hG hf hPre hNew e0
  go_enter Tryd.func32, Tryd.ntmps32
  go_wp2_with (first
    | (go_at_call 52; refine HC.out.mono ?_; clear HC; rintro e w1 ⟨rfl, hb1⟩; replace HF := hidb (HF.out w1 hb1); clear hb1)
    | (go_at_call 51; refine HF.out.mono ?_; clear HF; rintro e w2 ⟨rfl, K2⟩; obtain ⟨q2, c0, htb⟩ := HA.out w2 K2.out.1 w2 (Below.refl _ _); clear q2)
    | fail)
  go_cut [] (fun wx => ∃ g6 cap6, Hid (TS tb g6 (n + 1) cap6 root f0 wx ∧ (g6 = g ∨ w2.heap.size ≤ g6) ∧ Kt (fun i => i = tb ∨ i = g) w2 wx))
  case first =>
    go_region_law (first
      | (refine step_call2 (by rfl) 52 #[.tmp 27] #[9] (by rfl) eC #[sv key] (by rfl) _ (HC2.out _) ?_; rintro e w3 ⟨rfl, hb3⟩; refine ⟨_, rfl, ?_⟩; replace hb3 : Below w2.heap.size w2 w3 := (Below.refl _ w2).drew.trans hb3; obtain ⟨q3, c03, htb3⟩ := HA.out w2 K2.out.1 w3 hb3; have HT3 := hidb q3; clear q3; have HB3 := hidb hb3; clear hb3)
      | (refine step_appN _ (by rfl) (.tmp 26) (.tmp 31) 55 (by rfl) elemN_node 0 (.slice (some ⟨g, 0, none⟩) n cap) n (flat f n) (by rfl) (HT3.out.own.alloc _) _ (by rfl) 1 [sv key, sv val, .int .i64 0, .int .i64 0, .int .i64 1] (.inr ⟨⟨_, 0, none⟩, 1, rfl, cells_newb _ [sv key, sv val, .int .i64 0, .int .i64 0, .int .i64 1] 88 _ rfl⟩) rfl (by simp [Value.oneCell']) (by unfold maxLen; omega) (by omega) (by omega) ?_; intro v' w6 hr6 hs6; obtain ⟨g6, cap6, rfl, c6, z6, K6⟩ := app_step ⟨key, val, 0, 0, 1⟩ HT3.out hn1 hr6 hs6; clear hr6 hs6))
    all_goals
      go_wp2_with fail
      go_meet
      case rel =>
        obtain ⟨a1, a2, a3⟩ := K6.out
        rw [← E0.out] at a1
        exact ⟨g6, cap6, hidb ⟨a1, a2.imp id fun h => Nat.le_trans HB3.out.size h, (Kt.below HB3.out).trans a3 fun _ _ x => x⟩⟩
  case rest =>
    obtain ⟨g6, cap6, K6⟩ := hcut
    have c1 := K6.out.1.c1
    have HK := hidb (HCt.out g6 cap6)
    have HW2 := hidb (HW.out g6 cap6)
    have HN := hidb (HE.out g6 cap6 w2 wc K2.out.2 K6.out)
    clear HA HC2 eC HCt HW HE
    go_wp2_with fail
    go_region_law (first
      | (refine step_call2 (by rfl) 31 #[.tmp 41] #[34] (by rfl) eN #[.pointer (some ⟨tb, 0, none⟩)] (by rfl) _ (HK.out _ (K6.out.1.drewN 1)) ?_; rintro e w7 ⟨rfl, rfl⟩; refine ⟨_, rfl, ?_⟩)
      | (refine step_call2 (by rfl) 53 #[.tmp 36, .tmp 40, .tmp 42] #[34, 3, 3] (by rfl) eW #[.pointer (some ⟨tb, 0, none⟩), .int .i64 root, .int .i64 n] (by rfl) _ (HW2.out _ (K6.out.1.drewN 1)) ?_; rintro e w8 ⟨q8, rfl, K8⟩; refine ⟨_, rfl, ?_⟩; obtain ⟨d1, d2, K9⟩ := HN.out q8 w8 K8.out))
    all_goals
      go_end0
      exact K9

/-- put of any key and value. -/
theorem put_any (tb g : Nat) (L : Kvs) (w : World) (key val : Bt) (h : TreeAt tb g L w) (hk : key.length ≤ 281474976710656) (hv : val.length ≤ 281474976710656) (hroom : (L.length + 2) * 56 ≤ 140737488355328) :
    Calls Tryd.prog 32 #[.pointer (some ⟨tb, 0, none⟩), sv key, sv val] w (PutEnd tb g (putL L key val) w) := by
  obtain ⟨n, cap, root, f, T, h1, h2⟩ := h
  have hl : L.length + 1 = n := by rw [← h2.len, ← h2.kv, kvs, List.length_map]
  rcases h2.find key with ⟨a, _⟩ | ⟨a, b, _, d, _⟩
  · exact put_new tb g n cap root f T L w key val h1 h2 hk hv a (by omega)
  · exact put_old tb g n cap root f T L w key val h1 h2 hv _ rfl a b d
end Go.Proofs.YtcjakgogdbfagaaDoor
