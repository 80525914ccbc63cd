/- Layer 11: the tree's above, has, get, next, least. Layer 11: the tree's measure, turned, balanced. -/
import Derived.Test.YtcjakgogdbfagaaWB
import Derived.BigRegion
namespace Go.Proofs.Ytcjakgogdbfagaa
open Go.RowKit
set_option maxRecDepth 100000 in
set_option maxHeartbeats 1000000 in
theorem above_any (tb g n cap root : Nat) (f : Nat → Nd) (T : Tr) (w : World) (key : Bt) (h : TS tb g n cap root f w) (hT : Lk f T) (hr : root = T.top) (hm : ∀ p ∈ T.pl, p < n) :
    Calls Try.prog 59 #[.pointer (some ⟨tb, 0, none⟩), sv key] w fun e w' => e = .returned (.int .i64 (T.above f key 0 : Nat)) ∧ ∃ m, w' = w.drewN m := by
  have c1 := h.c1
  have hl := h.lt
  obtain ⟨R, hR⟩ : ∃ R, R = T.above f key 0 := ⟨_, rfl⟩
  rw [← hR]
  have H0 : Hid (Srch tb g n cap root f w (fun S => S.above f key 0) R T.pl.length root w) := hidb ⟨T, hT, hm, hR.symm, rfl, hr.symm, h, 0, rfl⟩
  clear h hT hm hR hr
  go_enter Try.func59, Try.ntmps59
  go_wp2_with fail
  go_loopg [5, 6] T.pl.length (fun k b v wr => ∃ least at_ : Nat, b = .int .i64 least ∧ v = .int .i64 at_ ∧ Hid (Srch tb g n cap root f w (fun S => S.above f key least) R k at_ wr))
  case atStart => exact ⟨0, root, rfl, rfl, H0⟩
  case round =>
    obtain ⟨least, at_, rfl, rfl, HS⟩ := hrel
    obtain ⟨S, k1, k2, k3, k4, k5, k6, m, k7⟩ := HS.out
    have c0 := k6.c0
    clear HS H0 c1
    cases S with
    | e =>
      have e0 : at_ = 0 := k5.symm
      subst e0
      have e1 : R = least := k3.symm
      subst e1
      have HE := hidb k7
      clear k1 k2 k3 k4 k5 k6 k7
      go_wp2_with fail
      go_ret
      exact ⟨rfl, m, HE.out⟩
    | n l p r =>
      have e0 : at_ = p := k5.symm
      subst e0
      have hp := k2 at_ (by simp [Tr.pl])
      have hp0 : at_ ≠ 0 := k1.2.2.2.2.1
      have ck := k6.k hp
      have cl := k6.l hp
      have cr := k6.r hp
      have hz : ((at_ : Int) == 0) = false := by simpa using hp0
      simp only [Tr.above] at k3
      by_cases c : klt key (f at_).k
      · rw [if_pos c] at k3
        have HN : Hid (∀ M, Srch tb g n cap root f w (fun S => S.above f key at_) R l.pl.length (f at_).l (wr.drewN M)) := hidb fun M => ⟨l, k1.1, fun p hp => k2 p (by simp [Tr.pl, hp]), k3, rfl, k1.2.2.1.symm, k6.drewN M, m + M, by rw [k7, World.drewN_drewN]⟩
        have HL : Hid (l.pl.length < gk) := hidb (by rw [← k4]; simp [Tr.pl])
        have hlt : Op.bytesLess (f at_).k key = false := by simpa using klt_asymm c
        have hne : ((f at_).k == key) = false := by simpa using (klt_ne c).symm
        clear k1 k2 k4 k5 k6 k7 k3 c
        generalize (f at_).l = kl at *
        generalize (f at_).k = kk at *
        go_wp2_with fail
        go_quiet (fail)
        go_wp2_with fail
        go_roundg l.pl.length
        case measure => exact HL.out
        case rel => exact ⟨at_, kl, rfl, rfl, HN.out _⟩
      · rw [if_neg c] at k3
        have HN : Hid (Srch tb g n cap root f w (fun S => S.above f key least) R r.pl.length (f at_).r wr) := hidb ⟨r, k1.2.1, fun p hp => k2 p (by simp [Tr.pl, hp]), k3, rfl, k1.2.2.2.1.symm, k6, m, k7⟩
        have HL : Hid (r.pl.length < gk) := hidb (by rw [← k4]; simp [Tr.pl]; omega)
        have hc : Op.bytesLess (f at_).k key = true ∨ ((f at_).k == key) = true := by
          by_cases e : (f at_).k = key
          · right; simpa using e
          · left; exact (klt_tot _ _ e).resolve_right c
        clear k1 k2 k4 k5 k6 k7 k3 c
        generalize (f at_).r = kl at *
        generalize (f at_).k = kk at *
        rcases hc with hlt | hlt <;>
        · go_wp2_with fail
          go_roundg r.pl.length
          case measure => exact HL.out
          case rel => exact ⟨least, kl, rfl, rfl, HN.out⟩
theorem cast_ne0 (R : Nat) : (((R : Int) != 0) : Bool) = (R != 0) := by
  rw [Bool.eq_iff_iff]; simp
theorem has_any (tb g n cap root : Nat) (f : Nat → Nd) (T : Tr) (w : World) (key : Bt) (h : TS tb g n cap root f w) (hT : Lk f T) (hr : root = T.top) (hm : ∀ p ∈ T.pl, p < n) :
    Calls Try.prog 39 #[.pointer (some ⟨tb, 0, none⟩), sv key] w fun e w' => e = .returned (.bool (T.find f key != 0)) ∧ ∃ m, w' = w.drewN m := by
  have HF := hidb (find_any tb g n cap root f T w key h hT hr hm)
  clear h hT hr hm
  generalize T.find f key = R at *
  go_enter Try.func39, Try.ntmps39
  go_wp2_with (go_at_call 54; refine HF.out.mono ?_; rintro e w' ⟨rfl, m, rfl⟩)
  go_ret
  exact ⟨by rw [← cast_ne0]; rfl, m, rfl⟩
set_option maxRecDepth 100000 in
set_option maxHeartbeats 1000000 in
theorem get_any (tb g n cap root : Nat) (f : Nat → Nd) (T : Tr) (w : World) (key : Bt) (h : TS tb g n cap root f w) (hT : Lk f T) (hr : root = T.top) (hm : ∀ p ∈ T.pl, p < n) (hn : T.find f key < n) :
    Calls Try.prog 40 #[.pointer (some ⟨tb, 0, none⟩), sv key] w fun e w' => e = .returned (.tuple #[sv (f (T.find f key)).v, .bool (T.find f key != 0)]) ∧ ∃ m, w' = w.drewN m := by
  have HF := hidb (find_any tb g n cap root f T w key h hT hr hm)
  have hl := h.lt
  have c0 := h.c0
  have cv := h.v hn
  clear h hT hr hm
  generalize T.find f key = R at *
  generalize (f R).v = v at *
  go_enter Try.func40, Try.ntmps40
  go_wp2_with (go_at_call 54; refine HF.out.mono ?_; clear HF; rintro e w' ⟨rfl, m, rfl⟩)
  go_ret2
  exact ⟨by rw [← cast_ne0]; rfl, m, rfl⟩
set_option maxRecDepth 100000 in
set_option maxHeartbeats 1000000 in
theorem next_any (tb g n cap root : Nat) (f : Nat → Nd) (T : Tr) (w : World) (key : Bt) (h : TS tb g n cap root f w) (hT : Lk f T) (hr : root = T.top) (hm : ∀ p ∈ T.pl, p < n) (hn : T.above f key 0 < n) :
    Calls Try.prog 41 #[.pointer (some ⟨tb, 0, none⟩), sv key] w fun e w' => e = .returned (.tuple #[sv (f (T.above f key 0)).k, .bool (T.above f key 0 != 0)]) ∧ ∃ m, w' = w.drewN m := by
  have HF := hidb (above_any tb g n cap root f T w key h hT hr hm)
  have hl := h.lt
  have c0 := h.c0
  have cv := h.k hn
  clear h hT hr hm
  generalize T.above f key 0 = R at *
  generalize (f R).k = v at *
  go_enter Try.func41, Try.ntmps41
  go_wp2_with (go_at_call 59; refine HF.out.mono ?_; clear HF; rintro e w' ⟨rfl, m, rfl⟩)
  go_ret2
  exact ⟨by rw [← cast_ne0]; rfl, m, rfl⟩
set_option maxRecDepth 100000 in
set_option maxHeartbeats 1000000 in
theorem least_any (tb g n cap root : Nat) (f : Nat → Nd) (T : Tr) (w : World) (h : TS tb g n cap root f w) (hT : Lk f T) (h0 : T.top ≠ 0) (hm : ∀ p ∈ T.pl, p < n) :
    Calls Try.prog 72 #[.pointer (some ⟨tb, 0, none⟩), .int .i64 (T.top : Nat)] w fun e w' => e = .returned (.int .i64 (T.lst : Nat)) ∧ w' = w := by
  have hl := h.lt
  have c0 := h.c0
  obtain ⟨R, hR⟩ : ∃ R, R = T.lst := ⟨_, rfl⟩
  rw [← hR]
  have HT := hidb h
  have H0 : Hid (∃ a q b, Lk f (.n a q b) ∧ (∀ p ∈ (Tr.n a q b).pl, p < n) ∧ (Tr.n a q b).lst = R ∧ (Tr.n a q b).pl.length = T.pl.length ∧ q = T.top) := by
    cases T with
    | e => exact absurd rfl h0
    | n a q b => exact hidb ⟨a, q, b, hT, hm, hR.symm, rfl, rfl⟩
  clear h hT h0 hm hR
  generalize T.top = t0 at *
  generalize T.pl.length = len at *
  go_enter Try.func72, Try.ntmps72
  go_wp2_with fail
  go_loopg [1] len (fun k v wr => wr = w ∧ ∃ q : Nat, v = .int .i64 q ∧ Hid (∃ a b, Lk f (.n a q b) ∧ (∀ p ∈ (Tr.n a q b).pl, p < n) ∧ (Tr.n a q b).lst = R ∧ (Tr.n a q b).pl.length = k))
  case atStart =>
    obtain ⟨a, q, b, k1, k2, k3, k4, rfl⟩ := H0.out
    exact ⟨rfl, q, rfl, hidb ⟨a, b, k1, k2, k3, k4⟩⟩
  case round =>
    obtain ⟨rfl, q, rfl, HS⟩ := hrel
    obtain ⟨a, b, k1, k2, k3, k4⟩ := HS.out
    have hq := k2 q (by simp [Tr.pl])
    have cl := HT.out.l hq
    rw [k1.2.2.1] at cl
    clear HS H0
    cases a with
    | e =>
      have e1 : R = q := k3.symm
      subst e1
      replace cl : wr.cell? ⟨g, R * 5 + 2, none⟩ = some (.int .i64 0) := cl
      clear k1 k2 k3 k4
      go_wp2_with fail
      go_ret
      exact ⟨rfl, rfl⟩
    | n a2 q2 b2 =>
      replace cl : wr.cell? ⟨g, q * 5 + 2, none⟩ = some (.int .i64 q2) := cl
      have hz : ((q2 : Int) == 0) = false := by have := k1.1.2.2.2.2.1; simpa using this
      have HN : Hid (∃ a b, Lk f (.n a q2 b) ∧ (∀ p ∈ (Tr.n a q2 b).pl, p < n) ∧ (Tr.n a q2 b).lst = R ∧ (Tr.n a q2 b).pl.length = (Tr.n a2 q2 b2).pl.length) := hidb ⟨a2, b2, k1.1, fun p hp => k2 p (by rw [show (Tr.n (.n a2 q2 b2) q b).pl = (Tr.n a2 q2 b2).pl ++ q :: b.pl from rfl]; simp [hp]), k3, rfl⟩
      have HL : Hid ((Tr.n a2 q2 b2).pl.length < gk) := hidb (by rw [← k4, show (Tr.n (.n a2 q2 b2) q b).pl = (Tr.n a2 q2 b2).pl ++ q :: b.pl from rfl]; simp)
      clear k1 k2 k3 k4
      generalize (Tr.n a2 q2 b2).pl.length = len2 at *
      go_wp2_with fail
      go_roundg len2
      case measure => exact HL.out
      case rel => exact ⟨rfl, q2, rfl, HN.out⟩
end Go.Proofs.Ytcjakgogdbfagaa
namespace Go.Proofs.Ytcjakgogdbfagaa
open Go.RowKit
/-- Of what was there nothing turns but block g. -/
def Kg (g : Nat) (w w' : World) : Prop := w.grownBy w' (some g)
theorem Kg.refl (g : Nat) (w : World) : Kg g w w := grown_refl w _
theorem Kg.trans {g : Nat} {a b c : World} (h : Kg g a b) (k : Kg g b c) : Kg g a c := grown_trans h k (.inl rfl)
theorem Kg.drewN {g : Nat} {a b : World} (h : Kg g a b) (n : Nat) : Kg g a (b.drewN n) := h.trans ⟨rfl, rfl, rfl, Nat.le_refl _, fun _ _ _ => rfl⟩
theorem Kg.set {g : Nat} {a b : World} (h : Kg g a b) (j : Nat) (v : Value) : Kg g a (b.setCell ⟨g, j, none⟩ v) :=
  h.trans ⟨rfl, rfl, rfl, by simp, fun i _ hi => Below.heap_setCell _ _ _ _ (fun e => hi (by rw [e]))⟩
theorem NB.set {w : World} {g n cap : Nat} {f : Nat → Nd} (h : NB w g n cap f) {p j : Nat} {x : Nd} {v : Value} (hp : p < n) (hj : j < 5) (hx : ∀ k < 5, x.c k = if k = j then v else (f p).c k) :
    NB (w.setCell ⟨g, p * 5 + j, none⟩ v) g n cap (upd f p x) := by
  obtain ⟨cur, h1, h2, h3, h4⟩ := h
  refine ⟨_, heap_setCell_same _ _ _ _ _ _ h1, by simpa using h2, h3, fun q hq k hk => ?_⟩
  rw [Array.getElem?_setIfInBounds]
  have hs : p * 5 + j < cur.size := by rw [h2]; omega
  by_cases e : q = p
  · subst e
    rw [upd_same, hx k hk]
    by_cases e : k = j
    · subst e; rw [if_pos rfl, if_pos rfl, if_pos hs]
    · rw [if_neg (by omega), if_neg e]; exact h4 q hq k hk
  · rw [upd_other _ _ e, if_neg (by omega)]; exact h4 q hq k hk
section
variable {tb g n cap root : Nat} {f : Nat → Nd} {w : World}
theorem TS.set (h : TS tb g n cap root f w) {p j : Nat} {x : Nd} {v : Value} (hp : p < n) (hj : j < 5) (hx : ∀ k < 5, x.c k = if k = j then v else (f p).c k) : TS tb g n cap root (upd f p x) (w.setCell ⟨g, p * 5 + j, none⟩ v) :=
  ⟨(Below.heap_setCell _ _ _ _ h.ne).trans h.box, h.nb.set hp hj hx, h.ne, h.cm, h.lt⟩
theorem cases5 {k : Nat} (h : k < 5) : k = 0 ∨ k = 1 ∨ k = 2 ∨ k = 3 ∨ k = 4 := by omega
theorem TS.setL (h : TS tb g n cap root f w) {p y : Nat} (hp : p < n) : TS tb g n cap root (upd f p { f p with l := y }) (w.setCell ⟨g, p * 5 + 2, none⟩ (.int .i64 y)) :=
  h.set hp (by omega) fun k hk => by rcases cases5 hk with rfl | rfl | rfl | rfl | rfl <;> rfl
theorem TS.setR (h : TS tb g n cap root f w) {p y : Nat} (hp : p < n) : TS tb g n cap root (upd f p { f p with r := y }) (w.setCell ⟨g, p * 5 + 3, none⟩ (.int .i64 y)) :=
  h.set hp (by omega) fun k hk => by rcases cases5 hk with rfl | rfl | rfl | rfl | rfl <;> rfl
theorem TS.setH (h : TS tb g n cap root f w) {p y : Nat} (hp : p < n) : TS tb g n cap root (upd f p { f p with h := y }) (w.setCell ⟨g, p * 5 + 4, none⟩ (.int .i64 y)) :=
  h.set hp (by omega) fun k hk => by rcases cases5 hk with rfl | rfl | rfl | rfl | rfl <;> rfl
theorem TS.setV (h : TS tb g n cap root f w) {p : Nat} {y : Bt} (hp : p < n) : TS tb g n cap root (upd f p { f p with v := y }) (w.setCell ⟨g, p * 5 + 1, none⟩ (sv y)) :=
  h.set hp (by omega) fun k hk => by rcases cases5 hk with rfl | rfl | rfl | rfl | rfl <;> rfl
end
/-- What a call leaves that writes nodes alone. -/
def TEnd (tb g n cap root : Nat) (f' : Nat → Nd) (w : World) (v : Value) (e : Ending) (w' : World) : Prop := e = .returned v ∧ TS tb g n cap root f' w' ∧ Kg g w w'
theorem max_ite (a b : Nat) : ((1 + max a b : Nat) : Int) = 1 + if a < b then (b : Int) else a := by split <;> omega
set_option maxRecDepth 100000 in
set_option maxHeartbeats 1000000 in
theorem measure_any (tb g n cap root : Nat) (f : Nat → Nd) (w : World) (p : Nat) (h : TS tb g n cap root f w) (hp : p < n) (hl : (f p).l < n) (hr : (f p).r < n) (b1 : (f (f p).l).h ≤ 1152921504606846976) (b2 : (f (f p).r).h ≤ 1152921504606846976) :
    Calls Try.prog 86 #[.pointer (some ⟨tb, 0, none⟩), .int .i64 p] w (TEnd tb g n cap root (measF f p) w (.tuple #[])) := by
  have c0 := h.c0
  have cl := h.l hp
  have cr := h.r hp
  have ch := h.h hp
  have c1 := h.h hl
  have c2 := h.h hr
  have cf := h.fr
  have hlt := h.lt
  obtain ⟨W, hW⟩ : ∃ W, W = w.alloc (.cells #[.int .i64 ((f p).l : Nat), .int .i64 ((f p).r : Nat)] 94) := ⟨_, rfl⟩
  obtain ⟨sz, hsz⟩ : ∃ sz, sz = w.heap.size := ⟨_, rfl⟩
  have hT : TS tb g n cap root f W := by rw [hW]; exact h.keep (Below.heap_alloc _ _ _ h.ltb) (Below.heap_alloc _ _ _ h.ltg)
  have l0 : W.cell? ⟨sz, 0, none⟩ = some (.int .i64 ((f p).l : Nat)) := by rw [hW, hsz, Lib.cell_of_heap (heap_alloc_new w _)]; rfl
  have l1 : W.cell? ⟨sz, 1, none⟩ = some (.int .i64 ((f p).r : Nat)) := by rw [hW, hsz, Lib.cell_of_heap (heap_alloc_new w _)]; rfl
  have HE : Hid (TEnd tb g n cap root (measF f p) w (.tuple #[]) (.returned (.tuple #[])) (W.setCell ⟨g, p * 5 + 4, none⟩ (.int .i64 (1 + if (f (f p).l).h < (f (f p).r).h then ((f (f p).r).h : Int) else (f (f p).l).h))).drew) := hidb (by
    rw [← max_ite]
    refine ⟨rfl, (hT.setH hp).drewN 1, ((Kg.refl g W).set _ _ |>.drewN 1 |> Kg.trans ?_)⟩
    rw [hW]
    exact World.grownBy_alloc w _ _)
  have d0 := hT.c0
  have dl := hT.l hp
  have dr := hT.r hp
  have dh := hT.h hp
  have d1 := hT.h hl
  have d2 := hT.h hr
  have df := hT.fr (p * 5 + 4)
  clear h hT
  generalize (f p).l = pl at *
  generalize (f p).r = pr at *
  generalize (f pl).h = h1 at *
  generalize (f pr).h = h2 at *
  generalize (f p).h = h3 at *
  go_enter Try.func86, Try.ntmps86
  go_wp2_with fail
  rw [← hW, ← hsz]
  clear hW hsz c0 cl cr ch c1 c2 cf
  go_region
  go_end0
  exact HE.out
end Go.Proofs.Ytcjakgogdbfagaa
