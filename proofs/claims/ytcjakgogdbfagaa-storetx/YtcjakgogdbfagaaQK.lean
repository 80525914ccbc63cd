/- Layer 11: the whole tree, what it holds; strings.Clone. A step law for a call of a Go function in a region that draws its order. -/
import Derived.Test.YtcjakgogdbfagaaQI
import Derived.Test.YtcjakgogdbfagaaShelfc
import Derived.Deep.RegionLaw
import Derived.Shelf.Abstract
import Derived.Test.YtcjakgogdbfagaaPlain
namespace Go.Proofs.Ytcjakgogdbfagaa
open Go.RowKit
abbrev Kvs := List (Bt × Bt)
def SrtL (L : Kvs) : Prop := L.Pairwise fun a b => klt a.1 b.1
def kvs (f : Nat → Nd) (l : List Nat) : Kvs := l.map fun p => ((f p).k, (f p).v)
theorem kvs_kv {f g : Nat → Nd} (h : KV f g) (l : List Nat) : kvs g l = kvs f l := List.map_congr_left fun p _ => by rw [(h p).1, (h p).2]
theorem srt_kvs {f : Nat → Nd} {l : List Nat} : SrtL (kvs f l) ↔ Srt (keys f l) := by
  unfold SrtL Srt kvs keys
  rw [List.pairwise_map, List.pairwise_map]
/-- The tree's nodes and links tell these pairs. -/
structure Good (n root : Nat) (f : Nat → Nd) (T : Tr) (L : Kvs) : Prop where
  lk : Lk f T
  top : root = T.top
  nd : T.pl.Nodup
  mem : ∀ p, p ∈ T.pl ↔ 0 < p ∧ p < n
  len : T.pl.length + 1 = n
  z : f 0 = Nd.zero
  kv : kvs f T.pl = L
  srt : SrtL L
/-- A key's value. -/
def getL : Kvs → Bt → Option Bt
  | [], _ => none
  | (a, b) :: l, k => if a = k then some b else getL l k
/-- The least key above. -/
def nextL : Kvs → Bt → Option Bt
  | [], _ => none
  | (a, _) :: l, k => if klt k a then some a else nextL l k
/-- A key is given a value. -/
def putL : Kvs → Bt → Bt → Kvs
  | [], k, v => [(k, v)]
  | (a, b) :: l, k, v => if a = k then (k, v) :: l else if klt k a then (k, v) :: (a, b) :: l else (a, b) :: putL l k v
def delL (L : Kvs) (k : Bt) : Kvs := L.filter fun x => x.1 ≠ k
theorem getL_app {A B : Kvs} {k : Bt} (h : ∀ x ∈ A, x.1 ≠ k) : getL (A ++ B) k = getL B k := by
  induction A with
  | nil => rfl
  | cons x A ih =>
    obtain ⟨a, b⟩ := x
    rw [List.cons_append, getL, if_neg (h (a, b) (by simp))]
    exact ih fun y hy => h y (by simp [hy])
theorem getL_none {L : Kvs} {k : Bt} (h : ∀ x ∈ L, x.1 ≠ k) : getL L k = none := by
  have := getL_app (B := []) h
  rw [List.append_nil] at this
  exact this
theorem getL_mem {L : Kvs} {k v : Bt} : getL L k = some v → (k, v) ∈ L := by
  induction L with
  | nil => intro h; cases h
  | cons x L ih =>
    obtain ⟨a, b⟩ := x
    unfold getL
    split
    · intro h; injection h with h; subst h; rename_i e; subst e; simp
    · intro h; simp [ih h]
theorem getL_some {L : Kvs} (s : SrtL L) {k v : Bt} (h : (k, v) ∈ L) : getL L k = some v := by
  induction L with
  | nil => cases h
  | cons x L ih =>
    obtain ⟨a, b⟩ := x
    rw [SrtL, List.pairwise_cons] at s
    unfold getL
    rcases List.mem_cons.1 h with e | e
    · injection e with e1 e2; rw [if_pos e1.symm, e2]
    · rw [if_neg (klt_ne (s.1 _ e)), ih s.2 e]
/-- What find comes to. -/
theorem Good.find {n root : Nat} {f : Nat → Nd} {T : Tr} {L : Kvs} (h : Good n root f T L) (key : Bt) : (T.find f key = 0 ∧ getL L key = none) ∨ (T.find f key ≠ 0 ∧ T.find f key ∈ T.pl ∧ T.find f key < n ∧ (f (T.find f key)).k = key ∧ getL L key = some (f (T.find f key)).v) := by
  have hs : Srt (keys f T.pl) := srt_kvs.1 (by rw [h.kv]; exact h.srt)
  rcases find_spec (key := key) h.lk hs with ⟨a, b⟩ | ⟨a, b, c⟩
  · refine .inl ⟨a, getL_none fun x hx e => b ?_⟩
    rw [← h.kv, kvs, List.mem_map] at hx
    obtain ⟨p, hp, rfl⟩ := hx
    exact List.mem_map.2 ⟨p, hp, e⟩
  · refine .inr ⟨b, a, ((h.mem _).1 a).2, c, getL_some h.srt ?_⟩
    rw [← h.kv]
    refine List.mem_map.2 ⟨_, a, ?_⟩
    rw [c]
theorem Good.hm {n root : Nat} {f : Nat → Nd} {T : Tr} {L : Kvs} (h : Good n root f T L) : ∀ p ∈ T.pl, p < n := fun p hp => ((h.mem p).1 hp).2
theorem Good.pos {n root : Nat} {f : Nat → Nd} {T : Tr} {L : Kvs} (h : Good n root f T L) : 0 < n := by have := h.len; omega
theorem Good.findlt {n root : Nat} {f : Nat → Nd} {T : Tr} {L : Kvs} (h : Good n root f T L) (key : Bt) : T.find f key < n := by
  rcases h.find key with ⟨a, _⟩ | ⟨_, _, a, _⟩
  · rw [a]; exact h.pos
  · exact a
theorem nextL_skip {A B : Kvs} {k : Bt} (h : ∀ x ∈ A, ¬ klt k x.1) : nextL (A ++ B) k = nextL B k := by
  induction A with
  | nil => rfl
  | cons x A ih =>
    obtain ⟨a, b⟩ := x
    rw [List.cons_append, nextL, if_neg (h (a, b) (by simp))]
    exact ih fun y hy => h y (by simp [hy])
/-- What above comes to. -/
theorem Good.above {n root : Nat} {f : Nat → Nd} {T : Tr} {L : Kvs} (h : Good n root f T L) (key : Bt) : (T.above f key 0 = 0 ∧ nextL L key = none) ∨ (T.above f key 0 ≠ 0 ∧ T.above f key 0 < n ∧ nextL L key = some (f (T.above f key 0)).k) := by
  have hs : Srt (keys f T.pl) := srt_kvs.1 (by rw [h.kv]; exact h.srt)
  rcases above_spec (key := key) 0 hs with ⟨a, b⟩ | ⟨A, q, B, e1, e2, e3, e4⟩
  · refine .inl ⟨a, ?_⟩
    have : nextL (L ++ []) key = nextL [] key := nextL_skip fun x hx => by
      rw [← h.kv, kvs, List.mem_map] at hx
      obtain ⟨p, hp, rfl⟩ := hx
      exact b p hp
    rw [List.append_nil] at this
    exact this
  · have hq : q ∈ T.pl := by rw [e1]; simp
    refine .inr ⟨by rw [e2]; exact h.lk.ne q hq, by rw [e2]; exact h.hm q hq, ?_⟩
    rw [e2, ← h.kv, e1, kvs, List.map_append, List.map_cons, nextL_skip, nextL, if_pos e3]
    intro x hx
    obtain ⟨p, hp, rfl⟩ := List.mem_map.1 hx
    exact e4 p hp
theorem strings_clone (s : Bt) (w : World) (hs : s.length ≤ 281474976710656) : Calls Try.prog 57 #[sv s] w fun e w' => e = .returned (sv s) ∧ Below w.heap.size w w' := by
  have hc := hidb (Try.stringslite_Clone ⟨s.toArray⟩ w (by show s.toArray.size ≤ _; simpa using hs))
  go_enter Try.func57, Try.ntmps57
  go_wp2_with (go_at_call 73; refine hc.out.mono ?_; clear hc; rintro e w' ⟨rfl, hb⟩)
  go_ret
  exact ⟨rfl, hb⟩
/-- Of what was there nothing turns but blocks of S. -/
structure Kt (S : Nat → Prop) (w w' : World) : Prop where
  os : w'.os = w.os
  tape : w'.tape = w.tape
  output : w'.output = w.output
  size : w.heap.size ≤ w'.heap.size
  block : ∀ i < w.heap.size, ¬ S i → w'.heap[i]? = w.heap[i]?
theorem Kt.refl (S : Nat → Prop) (w : World) : Kt S w w := ⟨rfl, rfl, rfl, Nat.le_refl _, fun _ _ _ => rfl⟩
theorem Kt.mono {S R : Nat → Prop} {w w' : World} (h : Kt S w w') (k : ∀ i < w.heap.size, S i → R i) : Kt R w w' := ⟨h.os, h.tape, h.output, h.size, fun i hi hn => h.block i hi fun x => hn (k i hi x)⟩
theorem Kt.trans {S R : Nat → Prop} {a b c : World} (h : Kt S a b) (k : Kt R b c) (m : ∀ i < a.heap.size, R i → S i) : Kt S a c :=
  ⟨k.os.trans h.os, k.tape.trans h.tape, k.output.trans h.output, Nat.le_trans h.size k.size, fun i hi hn => (k.block i (Nat.lt_of_lt_of_le hi h.size) fun x => hn (m i hi x)).trans (h.block i hi hn)⟩
theorem Kt.grown {g : Nat} {w w' : World} {S : Nat → Prop} (h : Kg g w w') (hs : S g) : Kt S w w' := ⟨h.os, h.tape, h.output, h.size, fun i hi hn => h.block i hi fun e => hn (by injection e with e; exact e ▸ hs)⟩
theorem Kt.below {w w' : World} {S : Nat → Prop} (h : Below w.heap.size w w') : Kt S w w' := ⟨h.os, h.tape, h.output, h.size, fun i hi _ => h.block i hi⟩
theorem Kt.drewN {S : Nat → Prop} {w w' : World} (h : Kt S w w') (M : Nat) : Kt S w (w'.drewN M) := ⟨h.os, h.tape, h.output, h.size, h.block⟩
theorem Kt.set {S : Nat → Prop} {w w' : World} (h : Kt S w w') {b j : Nat} {v : Value} (hb : b < w.heap.size → S b) : Kt S w (w'.setCell ⟨b, j, none⟩ v) :=
  ⟨h.os, h.tape, h.output, by rw [World.size_setCell]; exact h.size, fun i hi hn => (Below.heap_setCell _ _ _ _ (fun e => hn (by subst e; exact hb hi))).trans (h.block i hi hn)⟩
/-- The tree at tb holds these pairs; its nodes lie at g. -/
def TreeAt (tb g : Nat) (L : Kvs) (w : World) : Prop := ∃ n cap root f T, TS tb g n cap root f w ∧ Good n root f T L
theorem putL_old {A B : Kvs} {k v u : Bt} (h : ∀ x ∈ A, klt x.1 k) : putL (A ++ (k, v) :: B) k u = A ++ (k, u) :: B := by
  induction A with
  | nil => simp [putL]
  | cons x A ih =>
    obtain ⟨a, b⟩ := x
    have ha := h (a, b) (by simp)
    rw [List.cons_append, putL, if_neg (klt_ne ha), if_neg (klt_asymm ha), ih fun y hy => h y (by simp [hy])]
    rfl
theorem putL_new {A B : Kvs} {k u : Bt} (h : ∀ x ∈ A, klt x.1 k) (h2 : ∀ x ∈ B, klt k x.1) : putL (A ++ B) k u = A ++ (k, u) :: B := by
  induction A with
  | nil =>
    cases B with
    | nil => rfl
    | cons x B =>
      obtain ⟨a, b⟩ := x
      have hb := h2 (a, b) (by simp)
      rw [List.nil_append, putL, if_neg (klt_ne hb).symm, if_pos hb]
      rfl
  | cons x A ih =>
    obtain ⟨a, b⟩ := x
    have ha := h (a, b) (by simp)
    rw [List.cons_append, putL, if_neg (klt_ne ha), if_neg (klt_asymm ha), ih fun y hy => h y (by simp [hy])]
    rfl
theorem mem_split {l : List Nat} {p : Nat} (h : p ∈ l) : ∃ A B, l = A ++ p :: B := List.append_of_mem h
theorem Good.putOld {n root : Nat} {f : Nat → Nd} {T : Tr} {L : Kvs} (h : Good n root f T L) {key val : Bt} {p : Nat} (hp : p ∈ T.pl) (hk : (f p).k = key) : Good n root (upd f p { f p with v := val }) T (putL L key val) := by
  obtain ⟨A, B, e⟩ := mem_split hp
  have nd := h.nd
  rw [e, List.nodup_append, List.nodup_cons] at nd
  have hp0 := h.lk.ne p hp
  have same : ∀ q, (upd f p { f p with v := val } q).k = (f q).k ∧ (upd f p { f p with v := val } q).l = (f q).l ∧ (upd f p { f p with v := val } q).r = (f q).r ∧ (upd f p { f p with v := val } q).h = (f q).h := fun q => by
    unfold upd
    split
    · rename_i e; subst e; exact ⟨rfl, rfl, rfl, rfl⟩
    · exact ⟨rfl, rfl, rfl, rfl⟩
  have hA : kvs (upd f p { f p with v := val }) A = kvs f A := List.map_congr_left fun q hq => by rw [upd_other _ _ (show q ≠ p from fun x => nd.2.2 q hq p (by simp) x)]
  have hB : kvs (upd f p { f p with v := val }) B = kvs f B := List.map_congr_left fun q hq => by rw [upd_other _ _ (show q ≠ p from fun x => nd.2.1.1 (x ▸ hq))]
  have hs := h.srt
  have hL : L = kvs f A ++ (key, (f p).v) :: kvs f B := by rw [← h.kv, e, kvs, List.map_append, List.map_cons, hk]; rfl
  rw [hL, SrtL, List.pairwise_append] at hs
  have hkv : kvs (upd f p { f p with v := val }) T.pl = putL L key val := by
    rw [hL, putL_old fun x hx => hs.2.2 x hx (key, (f p).v) (by simp), e, kvs, List.map_append, List.map_cons, upd_same, ← hA, ← hB, ← hk]
    rfl
  refine ⟨?_, h.top, h.nd, h.mem, h.len, by rw [upd_other _ _ (Ne.symm hp0)]; exact h.z, hkv, ?_⟩
  · have : ∀ S : Tr, Lk f S → Lk (upd f p { f p with v := val }) S := fun S => by
      induction S with
      | e => exact fun _ => trivial
      | n l q r il ir => exact fun ⟨a, b, c, d, x, y, z⟩ => ⟨il a, ir b, by rw [(same q).2.1]; exact c, by rw [(same q).2.2.1]; exact d, x, by rw [(same q).2.2.2]; exact y, by rw [(same q).2.2.2]; exact z⟩
    exact this T h.lk
  · rw [← hkv, srt_kvs]
    have := h.srt
    rw [← h.kv, srt_kvs] at this
    rw [show keys (upd f p { f p with v := val }) T.pl = keys f T.pl from List.map_congr_left fun q _ => (same q).1]
    exact this
/-- What put leaves. -/
def PutEnd (tb g : Nat) (L' : Kvs) (w : World) (e : Ending) (w' : World) : Prop := e = .returned (.tuple #[]) ∧ Hid (∃ g', TreeAt tb g' L' w' ∧ (g' = g ∨ w.heap.size ≤ g') ∧ Kt (fun i => i = tb ∨ i = g) w w')
set_option maxRecDepth 100000 in
set_option maxHeartbeats 1000000 in
theorem put_old (tb g n cap root : Nat) (f : Nat → Nd) (T : Tr) (L : Kvs) (w : World) (key val : Bt) (h : TS tb g n cap root f w) (hG : Good n root f T L) (hv : val.length ≤ 281474976710656) (p : Nat) (hf : T.find f key = p) (hp0 : p ≠ 0) (hp : p ∈ T.pl) (hk : (f p).k = key) :
    Calls Try.prog 36 #[.pointer (some ⟨tb, 0, none⟩), sv key, sv val] w (PutEnd tb g (putL L key val) w) := by
  have HC := hidb (strings_clone val w hv)
  have hlt := h.lt
  have hpn := hG.hm p hp
  have HF : Hid (∀ W, Below w.heap.size w W → Calls Try.prog 54 #[.pointer (some ⟨tb, 0, none⟩), sv key] W fun e w' => e = .returned (.int .i64 p) ∧ Hid (TS tb g n cap root f w' ∧ Below w.heap.size w w')) := hidb fun W hb => by
    have h1 := h.keep (hb.block _ h.ltb) (hb.block _ h.ltg)
    have := find_any tb g n cap root f T W key h1 hG.lk hG.top hG.hm
    rw [hf] at this
    refine this.mono fun e w' ⟨x, m, y⟩ => ⟨x, ?_⟩
    subst y
    exact hidb ⟨h1.drewN m, below_drewN hb m⟩
  have HE : Hid (∀ W, TS tb g n cap root f W → Below w.heap.size w W → PutEnd tb g (putL L key val) w (.returned (.tuple #[])) (W.setCell ⟨g, p * 5 + 1, none⟩ (sv val))) := hidb fun W h1 h2 => ⟨rfl, hidb ⟨g, ⟨n, cap, root, _, T, h1.setV hpn, hG.putOld hp hk⟩, .inl rfl, (Kt.below h2).set fun _ => .inr rfl⟩⟩
  have hz : ((p : Int) == 0) = false := by simpa using hp0
  clear h hG hf hp hk
  go_enter Try.func36, Try.ntmps36
  go_wp2_with (first
    | (go_at_call 57; refine HC.out.mono ?_; clear HC; rintro e w1 ⟨rfl, hb1⟩; replace HF := hidb (HF.out w1 hb1); clear hb1)
    | (go_at_call 54; refine HF.out.mono ?_; clear HF; rintro e w2 ⟨rfl, K2⟩; replace HE := hidb (HE.out w2 K2.out.1 K2.out.2); have c0 := K2.out.1.c0; have cv := K2.out.1.v hpn; have cf := K2.out.1.fr (p * 5 + 1); clear K2)
    | fail)
  go_end0
  exact HE.out
end Go.Proofs.Ytcjakgogdbfagaa
namespace Go.Proofs.Ytcjakgogdbfagaa
open Go.RowKit
theorem step_call2 {P : Program} {ops : Array Oper} {o : Oper} {a : Act} {w : World} {K : Act → World → Prop} {Q : Exit → Act → World → Prop} {X : Prop} (hgd : o.guard = none) (f : FuncId) (xs : Array Operand) (ts : Array TypeId)
    (ho : o.op = .call { callee := .value (.func f), args := xs, argTypes := ts }) (eg : ∀ args w, (callFunc f args).run P w = .ok (.enter f args) w) (args : Array Value) (hargs0 : xs.toList.map a.eval = args.toList) (post : Ending → World → Prop)
    (h : Calls P f args w post) (hp : ∀ e w', post e w' → ∃ v, e = .returned v ∧ K (a.put o.dst v) w') : if Region.wanted o (yielded ops a.tmps) = true then Oper.wp P o a w K Q else X := by
  have hw : Region.wanted o (yielded ops a.tmps) = true := by simp [Region.wanted, hgd]
  have hargs : xs.map a.eval = args := by
    apply Array.toList_inj.1
    rw [Array.toList_map]
    exact hargs0
  rw [if_pos hw]
  unfold Oper.wp
  have e1 : (execOp a.eval o).run P w = .ok (.enter f args) w := by
    unfold execOp
    simp [ho, resolve, invoke, go_sem, eg, hargs]
  rw [e1]
  refine h.mono fun e w' hpost => ?_
  obtain ⟨v, rfl, hk⟩ := hp e w' hpost
  exact hk

end Go.Proofs.Ytcjakgogdbfagaa
