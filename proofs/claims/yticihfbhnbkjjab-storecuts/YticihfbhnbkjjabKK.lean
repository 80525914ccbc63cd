/- Layer 11: the document's Put, whole; stores that are filled. -/
import Derived.Test.YticihfbhnbkjjabKJ
import Derived.Test.YticihfbhnbkjjabKF
import Derived.Test.YticihfbhnbkjjabKO
namespace Go.Proofs.Yticihfbhnbkjjab
open Go.RowKit
theorem cellsP_set : ∀ (L : Kvs) (j : Nat) (x : Bt × Bt) (h : j < L.length), L[j].1 = x.1 → cellsP (L.set j x) = (cellsP L).set (j * 2 + 1) (sv x.2)
  | [], j, x, h, _ => by simp at h
  | y :: L, 0, x, h, e => by
    rw [List.set_cons_zero, cellsP_consK, cellsP_consK]
    simp only [List.getElem_cons_zero] at e
    rw [e]
    rfl
  | y :: L, j + 1, x, h, e => by
    rw [List.set_cons_succ, cellsP_consK, cellsP_consK, cellsP_set L j x (by simp at h; omega) (by simpa using e), show (j + 1) * 2 + 1 = j * 2 + 1 + 1 + 1 by omega]
    rfl
theorem row_setR {W : World} {B n cc g j : Nat} {t : TypeId} {L : Kvs} {x : Bt × Bt} (h : W.ownsRow B t 2 (.slice (some ⟨g, 0, none⟩) n cc) L.length (cellsP L)) (hj : j < L.length) (e : L[j].1 = x.1) : (W.setCell ⟨g, j * 2 + 1, none⟩ (sv x.2)).ownsRow B t 2 (.slice (some ⟨g, 0, none⟩) n cc) (L.set j x).length (cellsP (L.set j x)) := by
  rcases h.2 with ⟨e0, _⟩ | ⟨g', cap, cur, e0, hb, hc, hn, hm, hs, ht⟩
  · cases e0
  · injection e0 with e1 e2 e3
    injection e1 with e1
    injection e1 with e1
    subst e1
    refine ⟨cellsP_len _, .inr ⟨g, cap, _, by rw [List.length_set, e2, e3], hb, heap_setCell_same W g (j * 2 + 1) _ _ (sv x.2) hc, by rw [List.length_set]; exact hn, hm, ?_, ?_⟩⟩
    · simpa using hs
    · rw [cellsP_set L j x hj e, ← ht, List.length_set]
      simp [List.take_set]
/-- What a call of the document's store leaves. -/
def RfEnd (rb : Nat) (v0 : Value) (L' : Kvs) (r : Value) (w : World) (e : Ending) (w' : World) : Prop := e = .returned r ∧ Hid (∃ v', RfAt rb v' L' w' ∧ (v'.ownBlock = v0.ownBlock ∨ ∀ q, v'.ownBlock = some q → w.heap.size ≤ q) ∧ Kt (fun i => i = rb ∨ v0.ownBlock = some i) w w')
theorem RfAt.same {rb : Nat} {v0 : Value} {L : Kvs} {w w' : World} (h : RfAt rb v0 L w) (m : ∃ m, w' = w.drewN m) (r : Value) : RfEnd rb v0 L r w (.returned r) w' := by
  obtain ⟨m, rfl⟩ := m
  exact ⟨rfl, hidb ⟨v0, h.drewN m, .inl rfl, (Kt.refl _ w).drewN m⟩⟩
set_option maxRecDepth 100000 in
set_option maxHeartbeats 1000000 in
theorem rput_any (rb : Nat) (v0 : Value) (L : Kvs) (w : World) (k v : Bt) (h : RfAt rb v0 L w) (s : SrtL L) (hk : k.length ≤ 9223372036854775807) (hv : v.length ≤ 9223372036854775807) (hL : L.length ≤ 512) :
    Calls Try.prog 19 #[.pointer (some ⟨rb, 0, none⟩), sv k, sv v] w (RfEnd rb v0 (putS L k v) (.int .i64 (putE L k v)) w) := by
  have HF := hidb (rfind_any rb v0 L w k h s (by omega))
  unfold putE putS
  cases hl : longB k v with
  | true =>
    have HE : Hid (∀ m, RfEnd rb v0 L (.int .i64 41) w (.returned (.int .i64 41)) (w.drewN m)) := hidb fun m => h.same ⟨m, rfl⟩ _
    simp only [if_true]
    clear h
    unfold longB at hl
    by_cases h1 : 32 < k.length
    · have hd1 : decide ((32 : Int) < k.length) = true := by simp; omega
      go_enter Try.func19, Try.ntmps19
      go_wp2_with (first
        | (go_at_call 43; refine HF.out.mono ?_; clear HF; rintro e w1 ⟨rfl, m1, rfl⟩)
        | fail)
      go_ret
      exact HE.out _
    · have hd1 : decide ((32 : Int) < k.length) = false := by simp; omega
      have hd2 : decide ((256 : Int) < v.length) = true := by simp at hl; simp; omega
      go_enter Try.func19, Try.ntmps19
      go_wp2_with (first
        | (go_at_call 43; refine HF.out.mono ?_; clear HF; rintro e w1 ⟨rfl, m1, rfl⟩)
        | fail)
      go_ret
      exact HE.out _
  | false =>
    simp only [Bool.false_eq_true, if_false]
    have hk2 : k.length ≤ 32 := by unfold longB at hl; simp at hl; omega
    have hv2 : v.length ≤ 256 := by unfold longB at hl; simp at hl; omega
    cases hg : getL L k with
    | none =>
      by_cases hf : 512 ≤ L.length
      · rw [if_pos ⟨rfl, hf⟩, if_pos ⟨rfl, hf⟩]
        have HE : Hid (∀ m, RfEnd rb v0 L (.int .i64 45) w (.returned (.int .i64 45)) (w.drewN m)) := hidb fun m => h.same ⟨m, rfl⟩ _
        obtain ⟨ca, cc, rfl, _⟩ := h.form
        have c0 := h.c
        rw [hg] at HF
        have hn : L.length = 512 := by omega
        rw [hn] at c0
        clear h hf
        have hd1 : decide ((32 : Int) < k.length) = false := by simp; omega
        have hd2 : decide ((256 : Int) < v.length) = false := by simp; omega
        go_enter Try.func19, Try.ntmps19
        go_wp2_with (first
          | (go_at_call 43; refine HF.out.mono ?_; clear HF; rintro e w1 ⟨rfl, m1, rfl⟩)
          | fail)
        go_ret
        exact HE.out _
      · rw [if_neg (fun e => hf e.2), if_neg (fun e => hf e.2)]
        refine (rput_new rb v0 L w k v h s hk2 hv2 (by omega) hg).mono ?_
        rintro e w' ⟨rfl, H⟩
        obtain ⟨v', q1, q2, q3⟩ := H.out
        exact ⟨rfl, hidb ⟨v', q1, .inr q2, q3.mono fun i _ e => .inl e⟩⟩
    | some u =>
      rw [if_neg (by simp), if_neg (by simp)]
      obtain ⟨hset, hp, _, hat⟩ := putL_set s (v := v) hg
      obtain ⟨ca, cc, rfl, _⟩ := h.form
      obtain ⟨g, rfl, hgl, e0, e1⟩ := row_pairR h.row hp
      have c0 := h.c
      have HE : Hid (∀ m, RfEnd rb (.slice (some ⟨g, 0, none⟩) L.length cc) (putL L k v) (.int .i64 0) w (.returned (.int .i64 0)) ((w.drewN m).setCell ⟨g, posL L k * 2 + 1, none⟩ (sv v))) := hidb fun m => by
        have h2 := h.drewN m
        have hr := row_setR (x := (k, v)) h2.row hp (by rw [hat])
        have hne : rb ≠ g := fun e => by
          subst e
          exact absurd (row_typed h.row (g := rb) rfl h.box) (by decide)
        refine ⟨rfl, hidb ⟨_, ⟨(Below.heap_setCell _ _ _ _ hne).trans h2.box, ?_⟩, .inl rfl, ((Kt.refl _ w).drewN m).set fun _ => .inr rfl⟩⟩
        rw [hset]
        exact hr
      have fz : w.frozen? ⟨g, posL L k * 2 + 1, none⟩ = false := by
        rcases h.row.2 with ⟨e0, _⟩ | ⟨g', cap, cur, e0, hb, hc, _⟩
        · cases e0
        · injection e0 with e1
          injection e1 with e1
          injection e1 with e1
          subst e1
          exact Lib.frozen_of_heap hc _
      rw [hg] at HF
      simp only [Option.isSome_some] at HF
      rw [hat] at e1
      simp only at e1
      clear h hset hat e0
      generalize posL L k = j at *
      generalize L.length = n at *
      have hd1 : decide ((32 : Int) < k.length) = false := by simp; omega
      have hd2 : decide ((256 : Int) < v.length) = false := by simp; omega
      go_enter Try.func19, Try.ntmps19
      go_wp2_with (first
        | (go_at_call 43; refine HF.out.mono ?_; clear HF; rintro e w1 ⟨rfl, m1, rfl⟩)
        | fail)
      go_ret
      exact HE.out _
end Go.Proofs.Yticihfbhnbkjjab
