/- Layer 11: the tree's rise: what it hands on. -/
import Derived.RangeFuncNested
import Derived.RangeFuncBound
import Derived.RangeFuncCalls
import Derived.RangeFuncLeaves
import Derived.RangeFuncBox
import Derived.OwnWalkIn
import Derived.TacticsInMore
import Derived.LoopNIn
import Derived.LoopIn
import Derived.BigRegionIn
import Derived.Shelf.RegionOpen
import Derived.Sort.LoopGhostIn
import Derived.Sort.QuietIn
import Derived.Test.YtcjakgogdbfagaaFeeds2
import Derived.Test.YtcjakgogdbfagaaQO
import Derived.Test.YtcjakgogdbfagaaRJ
namespace Go.Proofs.Ytcjakgogdbfagaa
open Go.RowKit Go.Shelf
attribute [local go_sem] Oper.semAt_some
/-- The pairs from a key on. -/
def fromL (L : Kvs) (k : Bt) : Kvs := L.filter fun x => ¬ klt x.1 k
theorem rise_call (tb : Nat) (from_ : Bt) (w : World) : Calls Try.prog 43 #[.pointer (some ⟨tb, 0, none⟩), sv from_] w fun e w' => e = .returned (.func (.func 60) #[] #[.pointer (some ⟨w.heap.size, 0, none⟩), .pointer (some ⟨w.heap.size + 1, 0, none⟩)]) ∧ w' = (w.alloc (.cells #[.pointer (some ⟨tb, 0, none⟩)] 57)).alloc (.cells #[sv from_] 9) := by
  go_enter Try.func43, Try.ntmps43
  go_wp2_with fail
  go_ret
  exact ⟨rfl, rfl⟩
/-- These blocks lie as they lay. -/
def KpS (S : Nat → Prop) (W W' : World) : Prop := ∀ k, S k → W'.heap[k]? = W.heap[k]?
theorem KpS.trans {S : Nat → Prop} {X Y Z : World} (h : KpS S X Y) (k : KpS S Y Z) : KpS S X Z := fun j hj => (k j hj).trans (h j hj)
theorem KpS.refl (S : Nat → Prop) (W : World) : KpS S W W := fun _ _ => rfl
/-- Where the pairs from a key on begin. -/
theorem rise_start {nn root : Nat} {f : Nat → Nd} {T : Tr} {L : Kvs} (h : Good nn root f T L) (key : Bt) : ∃ A B, T.pl = A ++ B ∧ kvs f B = fromL L key ∧ (T.find f key ≠ 0 → T.find f key = hd0 B) ∧ (T.find f key = 0 → T.above f key 0 = hd0 B) := by
  have hs : Srt (keys f T.pl) := srt_kvs.1 (by rw [h.kv]; exact h.srt)
  have split : ∀ A B, T.pl = A ++ B → (∀ p ∈ A, klt (f p).k key) → (∀ p ∈ B, ¬ klt (f p).k key) → kvs f B = fromL L key := fun A B e hA hB => by
    rw [← h.kv, e, fromL, show kvs f (A ++ B) = kvs f A ++ kvs f B from List.map_append, List.filter_append, List.filter_eq_nil_iff.2, List.filter_eq_self.2]
    · rfl
    · intro x hx
      obtain ⟨p, hp, rfl⟩ := List.mem_map.1 hx
      simpa using hB p hp
    · intro x hx
      obtain ⟨p, hp, rfl⟩ := List.mem_map.1 hx
      simpa using hA p hp
  rcases h.find key with ⟨a, b⟩ | ⟨a, b, _, c, _⟩
  · rcases above_spec (key := key) 0 hs with ⟨x, y⟩ | ⟨A, q, B, e1, e2, e3, e4⟩
    · refine ⟨T.pl, [], by simp, split T.pl [] (by simp) (fun p hp => ?_) (by simp), fun e => absurd a e, fun _ => x⟩
      have : (f p).k ≠ key := fun e => by
        rw [getL_some h.srt (k := key) (v := (f p).v) (by rw [← h.kv, ← e]; exact List.mem_map.2 ⟨p, hp, rfl⟩)] at b
        cases b
      exact (klt_tot _ _ this).resolve_right (y p hp)
    · refine ⟨A, q :: B, e1, split _ _ e1 (fun p hp => ?_) (fun p hp => ?_), fun e => absurd a e, fun _ => e2⟩
      · have : (f p).k ≠ key := fun e => by
          rw [getL_some h.srt (k := key) (v := (f p).v) (by rw [← h.kv, ← e]; exact List.mem_map.2 ⟨p, by rw [e1]; simp [hp], rfl⟩)] at b
          cases b
        exact (klt_tot _ _ this).resolve_right (e4 p hp)
      · rw [e1, keys, List.map_append, List.map_cons, Srt, List.pairwise_append, List.pairwise_cons] at hs
        rcases List.mem_cons.1 hp with rfl | hp
        · exact klt_asymm e3
        · exact klt_asymm (klt_trans _ _ _ e3 (hs.2.1.1 _ (List.mem_map.2 ⟨p, hp, rfl⟩)))
  · obtain ⟨A, B, e⟩ := mem_split b
    rw [e, keys, List.map_append, List.map_cons, Srt, List.pairwise_append, List.pairwise_cons, c] at hs
    refine ⟨A, _ :: B, e, split _ _ e (fun p hp => ?_) (fun p hp => ?_), fun _ => rfl, fun x => absurd x a⟩
    · exact hs.2.2 _ (List.mem_map.2 ⟨p, hp, rfl⟩) key (by simp)
    · rcases List.mem_cons.1 hp with rfl | hp
      · rw [c]; exact klt_irr key
      · exact klt_asymm (hs.2.1.1 _ (List.mem_map.2 ⟨p, hp, rfl⟩))
theorem rise_next {nn root : Nat} {f : Nat → Nd} {T : Tr} {L : Kvs} (h : Good nn root f T L) {A B : List Nat} {q : Nat} (e : T.pl = A ++ q :: B) : T.above f (f q).k 0 = hd0 B := by
  have hs : Srt (keys f T.pl) := srt_kvs.1 (by rw [h.kv]; exact h.srt)
  have hs2 := hs
  rw [e, keys, List.map_append, List.map_cons, Srt, List.pairwise_append, List.pairwise_cons] at hs2
  refine above_at hs (A := A ++ [q]) (B := B) (by rw [e]; simp) (fun p hp => ?_) (fun p hp => hs2.2.1.1 _ (List.mem_map.2 ⟨p, hp, rfl⟩))
  rcases List.mem_append.1 hp with hp | hp
  · exact klt_asymm (hs2.2.2 _ (List.mem_map.2 ⟨p, hp, rfl⟩) (f q).k (by simp))
  · simp at hp; subst hp; exact klt_irr _
/-- What an operation of the loop's test leaves. -/
def RiP (vals : Nat → Value) (X : Value → World → Prop) : Array Bool → Nat → Value → World → Prop := fun _ j v W => (j < 20 → v = vals j) ∧ (j = 20 ∨ j = 21 → X v W)
/-- While it goes through the pairs. -/
def RiS (f : Nat → Nd) (S : Nat → Prop) (W : World) (B0 : List Nat) (k at_ : Nat) (J : Kvs → World → Prop) (wr : World) : Prop := ∃ D B, B0 = D ++ B ∧ B.length = k ∧ at_ = hd0 B ∧ KpS S W wr ∧ J (kvs f D) wr
set_option maxRecDepth 100000 in
set_option maxHeartbeats 2000000 in
theorem rise_feeds (n : Nat) (b1 b2 tb g : Nat) (L : Kvs) (from_ : Bt) (W : World) (c1 : W.cell? ⟨b1, 0, none⟩ = some (.pointer (some ⟨tb, 0, none⟩))) (c2 : W.cell? ⟨b2, 0, none⟩ = some (sv from_)) (hT : TreeAt tb g L W) :
    Feeds2 Fence.wide n Try.prog 60 #[.pointer (some ⟨b1, 0, none⟩), .pointer (some ⟨b2, 0, none⟩)] (fun x : Bt × Bt => #[sv x.1, sv x.2]) (KpS fun k => k = b1 ∨ k = b2 ∨ k = tb ∨ k = g) (fromL L from_) W := by
  intro l J Jx hJ hJx hY h0
  refine callsIn_of_wp Try.func60 rfl trivial ?_ rfl
  simp only [Try.ntmps60, List.size_toArray, List.length_cons, List.length_nil, Nat.reduceAdd, Nat.reduceSub, Array.replicate_succ, Array.replicate_zero, List.push_toArray, List.append_toArray, List.nil_append, List.cons_append]
  obtain ⟨nn, cap, root, f, T, h1, h2⟩ := hT
  obtain ⟨A0, B0, eT, eL, s1, s2⟩ := rise_start h2 from_
  obtain ⟨S, hS⟩ : ∃ S : Nat → Prop, S = fun k => k = b1 ∨ k = b2 ∨ k = tb ∨ k = g := ⟨_, rfl⟩
  rw [← hS] at hY
  have HF := hidb (find_any tb g nn cap root f T W from_ h1 h2.lk h2.top h2.hm)
  have HA := hidb fun M => above_any tb g nn cap root f T (W.drewN M) from_ (h1.drewN M) h2.lk h2.top h2.hm
  have H0 : Hid (∀ M, RiS f S W B0 B0.length (hd0 B0) J (W.drewN M)) := hidb fun M => ⟨[], B0, rfl, rfl, rfl, fun _ _ => rfl, hJ _ _ _ h0⟩
  have HEnd : Hid (∀ k wr, RiS f S W B0 k 0 J wr → J (fromL L from_) wr) := hidb fun k wr ⟨D, B, e1, _, e3, _, e5⟩ => by
    cases B with
    | nil => rw [List.append_nil] at e1; rw [← eL, e1]; exact e5
    | cons q B =>
      have : q ∈ T.pl := by rw [eT, e1]; simp
      exact absurd e3.symm (h2.lk.ne q this)
  have HRd : Hid (∀ k at_ wr, RiS f S W B0 k at_ J wr → at_ ≠ 0 → at_ < nn ∧ TS tb g nn cap root f wr ∧ wr.cell? ⟨b1, 0, none⟩ = some (.pointer (some ⟨tb, 0, none⟩)) ∧
      ∃ pre k', k' < k ∧ J pre wr ∧ pre ++ [((f at_).k, (f at_).v)] <+: fromL L from_ ∧ (∀ W', J (pre ++ [((f at_).k, (f at_).v)]) W' → KpS S wr W' → ∀ M, RiS f S W B0 k' (T.above f (f at_).k 0) J (W'.drewN M))) := hidb fun k at_ wr ⟨D, B, e1, e2, e3, e4, e5⟩ hne => by
    cases B with
    | nil => exact absurd e3 hne
    | cons q B =>
      have e3 : at_ = q := e3
      subst e3
      have hq : at_ ∈ T.pl := by rw [eT, e1]; simp
      subst hS
      refine ⟨h2.hm at_ hq, h1.keep (e4 tb (.inr (.inr (.inl rfl)))) (e4 g (.inr (.inr (.inr rfl)))), ?_, kvs f D, B.length, by rw [← e2]; simp, e5, ?_, fun W' j k M => ⟨D ++ [at_], B, by rw [e1]; simp, rfl, ?_, e4.trans (fun i hi => k i hi), ?_⟩⟩
      · unfold World.cell? at c1 ⊢
        rw [e4 b1 (.inl rfl)]
        exact c1
      · rw [← eL, e1]
        exact ⟨kvs f B, by simp [kvs]⟩
      · exact rise_next h2 (A := A0 ++ D) (by rw [eT, e1]; simp)
      · rw [kvs, List.map_append]
        exact hJ _ _ _ j
  have HAb : Hid (∀ W' k, TS tb g nn cap root f W' → Calls Try.prog 59 #[.pointer (some ⟨tb, 0, none⟩), sv k] W' fun e w' => e = .returned (.int .i64 (T.above f k 0 : Nat)) ∧ ∃ m, w' = W'.drewN m) := hidb fun W' k hW => above_any tb g nn cap root f T W' k hW h2.lk h2.top h2.hm
  have hlt := h1.lt
  have HSt : Hid (S tb) := hidb (by rw [hS]; exact .inr (.inr (.inl rfl)))
  have HSg : Hid (S g) := hidb (by rw [hS]; exact .inr (.inr (.inr rfl)))
  have HSb : Hid (S b1) := hidb (by rw [hS]; exact .inl rfl)
  have HDr := hidb hJ
  have s1' := hidb s1
  have s2' := hidb s2
  clear h1 h2 eT eL s1 s2 h0
  by_cases hf : T.find f from_ = 0
  · have H1 : Hid (∀ M, RiS f S W B0 B0.length (T.above f from_ 0) J (W.drewN M)) := hidb fun M => by rw [s2'.out hf]; exact H0.out M
    rw [hf] at HF
    clear H0
    generalize T.above f from_ 0 = at0 at *
    gi_wp2_with (first
      | (refine ⟨trivial, fun e => (by cases e), ?_⟩; gi_at_call 54; refine (callsIn_wide.2 HF.out).mono ?_; clear HF; rintro e w1 ⟨rfl, m1, rfl⟩)
      | (refine ⟨trivial, fun e => (by cases e), ?_⟩; gi_at_call 59; refine (callsIn_wide.2 (HA.out _)).mono ?_; clear HA; rintro e w2 ⟨rfl, m2, rfl⟩)
      | fail)
    gi_loopg [4] B0.length (fun k v wr => ∃ at_ : Nat, v = .int .i64 at_ ∧ Hid (RiS f S W B0 k at_ J wr))
    case atStart => exact ⟨at0, rfl, hidb (H1.out _)⟩
    case round =>
      obtain ⟨at_, rfl, HS⟩ := hrel
      clear c1 c2
      by_cases ha : at_ = 0
      · subst ha
        have HJ := hidb (HEnd.out _ _ HS.out)
        clear HS HRd
        gi_wp2
        obtain ⟨vals, hvals⟩ : ∃ vals : Nat → Value, vals = fun i => match i with | 0 => .int .i64 0 | 1 => .bool false | 2 => .bool false | 21 => .bool false | _ => undef := ⟨_, rfl⟩
        refine wpIn_region_eachg (by kernel_rfl) 45 rfl (by kernel_rfl) (fun _ X => X = wr.drew) (fun _ j v _ => v = vals j) rfl ?hop ?hend
        case hop =>
          intro i o ho listed a X hE hn haf
          have hi : i < 22 := (Array.getElem?_eq_some_iff.1 ho).1
          have hv := hE.vals
          obtain rfl := hE.glob
          have t4 : a.tmps[4]?.getD undef = .int .i64 0 := hE.rest 4 (rest_of (by kernel_rfl))
          match i, hi, ho, hn, haf with
          | 0, _, ho, hn, haf =>
            obtain rfl := Option.some.inj ho
            exact owes_value (v := vals 0) rfl (by rfl) (by rw [hvals]; simp [execOp, go_sem, t4]) rfl rfl fun _ _ _ h => h
          | 1, _, ho, hn, haf =>
            obtain rfl := Option.some.inj ho
            have p0 := hv 0 _ 13 rfl (haf ⟨0, .data⟩ (by simp) rfl) rfl
            rw [hvals] at p0
            exact owes_value (v := vals 1) rfl (by rfl) (by rw [hvals]; simp [execOp, go_sem, p0]) rfl rfl fun _ _ _ h => h
          | 2, _, ho, hn, haf =>
            obtain rfl := Option.some.inj ho
            have p1 := hv 1 _ 14 rfl (haf ⟨1, .data⟩ (by simp) rfl) rfl
            rw [hvals] at p1
            exact owes_value (v := vals 2) rfl (by rfl) (by rw [hvals]; simp [execOp, go_sem, p1]) rfl rfl fun _ _ _ h => h
          | 3, _, ho, hn, haf =>
            obtain rfl := Option.some.inj ho
            have p2 := hv 2 _ 15 rfl (haf ⟨2, .guard⟩ (by simp) rfl) rfl
            rw [hvals] at p2
            exact owes_none rfl ((wanted_is rfl rfl p2).trans rfl) (by rw [hvals]; rfl) rfl fun _ _ _ h => h
          | 4, _, ho, hn, haf =>
            obtain rfl := Option.some.inj ho
            have p2 := hv 2 _ 15 rfl (haf ⟨2, .guard⟩ (by simp) rfl) rfl
            rw [hvals] at p2
            exact owes_none rfl ((wanted_is rfl rfl p2).trans rfl) (by rw [hvals]; rfl) rfl fun _ _ _ h => h
          | 5, _, ho, hn, haf =>
            obtain rfl := Option.some.inj ho
            have p2 := hv 2 _ 15 rfl (haf ⟨2, .guard⟩ (by simp) rfl) rfl
            rw [hvals] at p2
            exact owes_none rfl ((wanted_is rfl rfl p2).trans rfl) (by rw [hvals]; rfl) rfl fun _ _ _ h => h
          | 6, _, ho, hn, haf =>
            obtain rfl := Option.some.inj ho
            have p2 := hv 2 _ 15 rfl (haf ⟨2, .guard⟩ (by simp) rfl) rfl
            rw [hvals] at p2
            exact owes_none rfl ((wanted_is rfl rfl p2).trans rfl) (by rw [hvals]; rfl) rfl fun _ _ _ h => h
          | 7, _, ho, hn, haf =>
            obtain rfl := Option.some.inj ho
            have p2 := hv 2 _ 15 rfl (haf ⟨2, .guard⟩ (by simp) rfl) rfl
            rw [hvals] at p2
            exact owes_none rfl ((wanted_is rfl rfl p2).trans rfl) (by rw [hvals]; rfl) rfl fun _ _ _ h => h
          | 8, _, ho, hn, haf =>
            obtain rfl := Option.some.inj ho
            have p2 := hv 2 _ 15 rfl (haf ⟨2, .guard⟩ (by simp) rfl) rfl
            rw [hvals] at p2
            exact owes_none rfl ((wanted_is rfl rfl p2).trans rfl) (by rw [hvals]; rfl) rfl fun _ _ _ h => h
          | 9, _, ho, hn, haf =>
            obtain rfl := Option.some.inj ho
            have p2 := hv 2 _ 15 rfl (haf ⟨2, .guard⟩ (by simp) rfl) rfl
            rw [hvals] at p2
            exact owes_none rfl ((wanted_is rfl rfl p2).trans rfl) (by rw [hvals]; rfl) rfl fun _ _ _ h => h
          | 10, _, ho, hn, haf =>
            obtain rfl := Option.some.inj ho
            have p2 := hv 2 _ 15 rfl (haf ⟨2, .guard⟩ (by simp) rfl) rfl
            rw [hvals] at p2
            exact owes_none rfl ((wanted_is rfl rfl p2).trans rfl) (by rw [hvals]; rfl) rfl fun _ _ _ h => h
          | 11, _, ho, hn, haf =>
            obtain rfl := Option.some.inj ho
            have p2 := hv 2 _ 15 rfl (haf ⟨2, .guard⟩ (by simp) rfl) rfl
            rw [hvals] at p2
            exact owes_none rfl ((wanted_is rfl rfl p2).trans rfl) (by rw [hvals]; rfl) rfl fun _ _ _ h => h
          | 12, _, ho, hn, haf =>
            obtain rfl := Option.some.inj ho
            have p2 := hv 2 _ 15 rfl (haf ⟨2, .guard⟩ (by simp) rfl) rfl
            rw [hvals] at p2
            exact owes_none rfl ((wanted_is rfl rfl p2).trans rfl) (by rw [hvals]; rfl) rfl fun _ _ _ h => h
          | 13, _, ho, hn, haf =>
            obtain rfl := Option.some.inj ho
            have p2 := hv 2 _ 15 rfl (haf ⟨2, .guard⟩ (by simp) rfl) rfl
            rw [hvals] at p2
            exact owes_none rfl ((wanted_is rfl rfl p2).trans rfl) (by rw [hvals]; rfl) rfl fun _ _ _ h => h
          | 14, _, ho, hn, haf =>
            obtain rfl := Option.some.inj ho
            have p2 := hv 2 _ 15 rfl (haf ⟨2, .guard⟩ (by simp) rfl) rfl
            rw [hvals] at p2
            exact owes_none rfl ((wanted_is rfl rfl p2).trans rfl) (by rw [hvals]; rfl) rfl fun _ _ _ h => h
          | 15, _, ho, hn, haf =>
            obtain rfl := Option.some.inj ho
            have p2 := hv 2 _ 15 rfl (haf ⟨2, .guard⟩ (by simp) rfl) rfl
            rw [hvals] at p2
            exact owes_none rfl ((wanted_is rfl rfl p2).trans rfl) (by rw [hvals]; rfl) rfl fun _ _ _ h => h
          | 16, _, ho, hn, haf =>
            obtain rfl := Option.some.inj ho
            have p2 := hv 2 _ 15 rfl (haf ⟨2, .guard⟩ (by simp) rfl) rfl
            rw [hvals] at p2
            exact owes_none rfl ((wanted_is rfl rfl p2).trans rfl) (by rw [hvals]; rfl) rfl fun _ _ _ h => h
          | 17, _, ho, hn, haf =>
            obtain rfl := Option.some.inj ho
            have p2 := hv 2 _ 15 rfl (haf ⟨2, .guard⟩ (by simp) rfl) rfl
            rw [hvals] at p2
            exact owes_none rfl ((wanted_is rfl rfl p2).trans rfl) (by rw [hvals]; rfl) rfl fun _ _ _ h => h
          | 18, _, ho, hn, haf =>
            obtain rfl := Option.some.inj ho
            have p2 := hv 2 _ 15 rfl (haf ⟨2, .guard⟩ (by simp) rfl) rfl
            rw [hvals] at p2
            exact owes_none rfl ((wanted_is rfl rfl p2).trans rfl) (by rw [hvals]; rfl) rfl fun _ _ _ h => h
          | 19, _, ho, hn, haf =>
            obtain rfl := Option.some.inj ho
            have p2 := hv 2 _ 15 rfl (haf ⟨2, .guard⟩ (by simp) rfl) rfl
            rw [hvals] at p2
            exact owes_none rfl ((wanted_is rfl rfl p2).trans rfl) (by rw [hvals]; rfl) rfl fun _ _ _ h => h
          | 20, _, ho, hn, haf =>
            obtain rfl := Option.some.inj ho
            have p2 := hv 2 _ 15 rfl (haf ⟨2, .guard⟩ (by simp) rfl) rfl
            rw [hvals] at p2
            exact owes_none rfl ((wanted_is rfl rfl p2).trans rfl) (by rw [hvals]; rfl) rfl fun _ _ _ h => h
          | 21, _, ho, hn, haf =>
            obtain rfl := Option.some.inj ho
            have p2 := hv 2 _ 15 rfl (haf ⟨2, .data⟩ (by simp) rfl) rfl
            rw [hvals] at p2
            exact owes_value (v := vals 21) rfl (by rfl) (by rw [hvals]; simp [execOp, go_sem, p2]) rfl rfl fun _ _ _ h => h
        case hend =>
          intro a X hE
          obtain rfl := hE.glob
          have pb := hE.vals 21 _ 34 rfl (by rfl) rfl
          rw [hvals] at pb
          simp only at pb
          have r0 := hE.rest 0 (rest_of (by kernel_rfl))
          have r1 := hE.rest 1 (rest_of (by kernel_rfl))
          have r2 := hE.rest 2 (rest_of (by kernel_rfl))
          have r3 := hE.rest 3 (rest_of (by kernel_rfl))
          have r4 := hE.rest 4 (rest_of (by kernel_rfl))
          have r5 := hE.rest 5 (rest_of (by kernel_rfl))
          have r6 := hE.rest 6 (rest_of (by kernel_rfl))
          have r7 := hE.rest 7 (rest_of (by kernel_rfl))
          have r8 := hE.rest 8 (rest_of (by kernel_rfl))
          have r9 := hE.rest 9 (rest_of (by kernel_rfl))
          have r10 := hE.rest 10 (rest_of (by kernel_rfl))
          have r11 := hE.rest 11 (rest_of (by kernel_rfl))
          have r12 := hE.rest 12 (rest_of (by kernel_rfl))
          have r35 := hE.rest 35 (rest_of (by kernel_rfl))
          have r36 := hE.rest 36 (rest_of (by kernel_rfl))
          have r37 := hE.rest 37 (rest_of (by kernel_rfl))
          have r38 := hE.rest 38 (rest_of (by kernel_rfl))
          have r39 := hE.rest 39 (rest_of (by kernel_rfl))
          have r40 := hE.rest 40 (rest_of (by kernel_rfl))
          have r41 := hE.rest 41 (rest_of (by kernel_rfl))
          have r42 := hE.rest 42 (rest_of (by kernel_rfl))
          have r43 := hE.rest 43 (rest_of (by kernel_rfl))
          have r44 := hE.rest 44 (rest_of (by kernel_rfl))
          simp only [List.getElem?_toArray, List.getElem?_cons_zero, List.getElem?_cons_succ, Option.getD_some] at r0 r1 r2 r3 r4 r5 r6 r7 r8 r9 r10 r11 r12 r35 r36 r37 r38 r39 r40 r41 r42 r43 r44
          have hsz := hE.tsize
          have hdf := hE.defers
          obtain ⟨tm, df⟩ := a
          simp only at hsz hdf pb r0 r1 r2 r3 r4 r5 r6 r7 r8 r9 r10 r11 r12 r35 r36 r37 r38 r39 r40 r41 r42 r43 r44
          have htm := arr_out 45 tm hsz undef
          simp only [List.range, List.range.loop, List.map_cons, List.map_nil] at htm
          rw [pb, r0, r1, r2, r3, r4, r5, r6, r7, r8, r9, r10, r11, r12, r35, r36, r37, r38, r39, r40, r41, r42, r43, r44] at htm
          subst hdf
          rw [htm]
          clear htm hE pb hsz r0 r1 r2 r3 r4 r5 r6 r7 r8 r9 r10 r11 r12 r35 r36 r37 r38 r39 r40 r41 r42 r43 r44
          gi_wp2
          go_end0
          exact ⟨⟨_, rfl⟩, .inl (HDr.out _ _ 1 HJ.out)⟩
      · obtain ⟨han, hT, c1, pre, k', hk', hj, hpre, hnx⟩ := HRd.out _ _ _ HS.out ha
        have c0 := hT.c0
        have ck := hT.k han
        have cv := hT.v han
        have hz : ((at_ : Int) == 0) = false := by simpa using ha
        have hz2 : ((at_ : Int) != 0) = true := by simpa using ha
        obtain ⟨fn, tmps, assign, body, hy, hR⟩ := hY pre _ wr.drew (hJ _ wr 1 hj) hpre
        have hmix : Try.prog.follows .mixedOrders = true := by kernel_rfl
        have HN : Hid (∀ W', J (pre ++ [((f at_).k, (f at_).v)]) W' → KpS S wr.drew W' → ∀ M, RiS f S W B0 k' (T.above f (f at_).k 0) J (W'.drewN M)) := hidb hnx
        have HL := hidb hk'
        have HPre := hidb hpre
        have HTk : Hid (∀ X, KpS S wr.drew X → TS tb g nn cap root f X) := hidb fun X hX => hT.keep (hX tb (HSt.out)) (hX g HSg.out)
        have HB1 : Hid (∀ X, KpS S wr.drew X → X.cell? ⟨b1, 0, none⟩ = some (.pointer (some ⟨tb, 0, none⟩))) := hidb fun X hX => by
          unfold World.cell? at c1 ⊢
          rw [hX b1 HSb.out]
          exact c1
        have HK := hidb (rfl : (f at_).k = (f at_).k)
        generalize hkk : (f at_).k = kk at HK ck cv hy hR HN HPre
        clear hnx hj hpre HS HRd HEnd hk'
        replace HK := hidb hkk
        clear hkk hT
        generalize (f at_).v = kv at *
        gi_wp2
        obtain ⟨vals, hvals⟩ : ∃ vals : Nat → Value, vals = fun i => match i with | 0 => .int .i64 at_ | 1 => .bool true | 2 => .bool true | 3 => .func (.yield l) #[] #[] | 4 => .pointer (some ⟨tb, 0, none⟩) | 5 => .pointer (some ⟨tb, 0, none⟩) | 6 => .pointer (some ⟨tb, 0, none⟩) | 7 => .slice (some ⟨g, 0, none⟩) nn cap | 8 => .int .i64 at_ | 9 => .pointer (some ⟨g, at_ * 5, none⟩) | 10 => .pointer (some ⟨g, at_ * 5, none⟩) | 11 => sv kk | 12 => .pointer (some ⟨tb, 0, none⟩) | 13 => .pointer (some ⟨tb, 0, none⟩) | 14 => .pointer (some ⟨tb, 0, none⟩) | 15 => .slice (some ⟨g, 0, none⟩) nn cap | 16 => .int .i64 at_ | 17 => .pointer (some ⟨g, at_ * 5, none⟩) | 18 => .pointer (some ⟨g, at_ * 5 + 1, none⟩) | _ => sv kv := ⟨_, rfl⟩
        refine wpIn_region_eachg (by kernel_rfl) 45 rfl (by kernel_rfl) (fun listed X => listed.getD 20 false = false → X = wr.drew) (RiP vals fun v X => ∃ b : Bool, v = .bool b ∧ (b = true → J (pre ++ [(kk, kv)]) X ∧ KpS S wr.drew X) ∧ (b = false → Jx (pre ++ [(kk, kv)]) X)) (fun _ => rfl) ?hop ?hend
        case hop =>
          intro i o ho listed a X hE hn haf
          have hi : i < 22 := (Array.getElem?_eq_some_iff.1 ho).1
          have hcl := hE.closed
          have hv := hE.vals
          have t0 : a.tmps[0]?.getD undef = .func (.yield l) #[] #[] := hE.rest 0 (rest_of (by kernel_rfl))
          have t1 : a.tmps[1]?.getD undef = .pointer (some ⟨b1, 0, none⟩) := hE.rest 1 (rest_of (by kernel_rfl))
          have t4 : a.tmps[4]?.getD undef = .int .i64 at_ := hE.rest 4 (rest_of (by kernel_rfl))
          have wb1 : wr.drew.cell? ⟨b1, 0, none⟩ = some (.pointer (some ⟨tb, 0, none⟩)) := c1
          have w0 : wr.drew.cell? ⟨tb, 0, none⟩ = some (.slice (some ⟨g, 0, none⟩) nn cap) := c0
          have wk : wr.drew.cell? ⟨g, at_ * 5, none⟩ = some (sv kk) := ck
          have wv : wr.drew.cell? ⟨g, at_ * 5 + 1, none⟩ = some (sv kv) := cv
          match i, hi, ho, hn, haf with
          | 0, _, ho, hn, haf =>
            obtain rfl := Option.some.inj ho
            have e20 : listed.getD 20 false = false := off_ofg hn fun q => (hcl 1 _ rfl (hcl 2 _ rfl (hcl 3 _ rfl (hcl 20 _ rfl q ⟨3, .data⟩ (by simp) rfl) ⟨2, .guard⟩ (by simp) rfl) ⟨1, .data⟩ (by simp) rfl) ⟨0, .data⟩ (by simp) rfl)
            obtain rfl := hE.glob e20
            refine owes_value (v := vals 0) rfl (by rfl) (by rw [hvals]; simp [execOp, go_sem, t4]) ⟨fun _ => rfl, fun h => by omega⟩ (fun _ => rfl) fun _ _ _ h => h
          | 1, _, ho, hn, haf =>
            obtain rfl := Option.some.inj ho
            have p0 := (hv 0 _ 13 rfl (haf ⟨0, .data⟩ (by simp) rfl) rfl).1 (by omega)
            rw [hvals] at p0
            have e20 : listed.getD 20 false = false := off_ofg hn fun q => (hcl 2 _ rfl (hcl 3 _ rfl (hcl 20 _ rfl q ⟨3, .data⟩ (by simp) rfl) ⟨2, .guard⟩ (by simp) rfl) ⟨1, .data⟩ (by simp) rfl)
            obtain rfl := hE.glob e20
            refine owes_value (v := vals 1) rfl (by rfl) (by rw [hvals]; simp [execOp, go_sem, p0, hz2]) ⟨fun _ => rfl, fun h => by omega⟩ (fun _ => rfl) fun _ _ _ h => h
          | 2, _, ho, hn, haf =>
            obtain rfl := Option.some.inj ho
            have p1 := (hv 1 _ 14 rfl (haf ⟨1, .data⟩ (by simp) rfl) rfl).1 (by omega)
            rw [hvals] at p1
            have e20 : listed.getD 20 false = false := off_ofg hn fun q => (hcl 3 _ rfl (hcl 20 _ rfl q ⟨3, .data⟩ (by simp) rfl) ⟨2, .guard⟩ (by simp) rfl)
            obtain rfl := hE.glob e20
            refine owes_value (v := vals 2) rfl (by rfl) (by rw [hvals]; simp [execOp, go_sem, p1]) ⟨fun _ => rfl, fun h => by omega⟩ (fun _ => rfl) fun _ _ _ h => h
          | 3, _, ho, hn, haf =>
            obtain rfl := Option.some.inj ho
            have p2 := (hv 2 _ 15 rfl (haf ⟨2, .guard⟩ (by simp) rfl) rfl).1 (by omega)
            rw [hvals] at p2
            have e20 : listed.getD 20 false = false := off_ofg hn fun q => (hcl 20 _ rfl q ⟨3, .data⟩ (by simp) rfl)
            obtain rfl := hE.glob e20
            refine owes_value (v := vals 3) rfl ((wanted_is rfl rfl p2).trans rfl) (by rw [hvals]; simp [execOp, go_sem, t0]) ⟨fun _ => rfl, fun h => by omega⟩ (fun _ => rfl) fun _ _ _ h => h
          | 4, _, ho, hn, haf =>
            obtain rfl := Option.some.inj ho
            have p2 := (hv 2 _ 15 rfl (haf ⟨2, .guard⟩ (by simp) rfl) rfl).1 (by omega)
            rw [hvals] at p2
            have e20 : listed.getD 20 false = false := off_ofg hn fun q => (hcl 5 _ rfl (hcl 6 _ rfl (hcl 7 _ rfl (hcl 9 _ rfl (hcl 10 _ rfl (hcl 11 _ rfl (hcl 20 _ rfl q ⟨11, .data⟩ (by simp) rfl) ⟨10, .data⟩ (by simp) rfl) ⟨9, .data⟩ (by simp) rfl) ⟨7, .data⟩ (by simp) rfl) ⟨6, .data⟩ (by simp) rfl) ⟨5, .data⟩ (by simp) rfl) ⟨4, .data⟩ (by simp) rfl)
            obtain rfl := hE.glob e20
            refine owes_value (v := vals 4) rfl ((wanted_is rfl rfl p2).trans rfl) (by rw [hvals]; simp [execOp, go_sem, t1, wb1]) ⟨fun _ => rfl, fun h => by omega⟩ (fun _ => rfl) fun _ _ _ h => h
          | 5, _, ho, hn, haf =>
            obtain rfl := Option.some.inj ho
            have p4 := (hv 4 _ 17 rfl (haf ⟨4, .data⟩ (by simp) rfl) rfl).1 (by omega)
            rw [hvals] at p4
            have p2 := (hv 2 _ 15 rfl (haf ⟨2, .guard⟩ (by simp) rfl) rfl).1 (by omega)
            rw [hvals] at p2
            have e20 : listed.getD 20 false = false := off_ofg hn fun q => (hcl 6 _ rfl (hcl 7 _ rfl (hcl 9 _ rfl (hcl 10 _ rfl (hcl 11 _ rfl (hcl 20 _ rfl q ⟨11, .data⟩ (by simp) rfl) ⟨10, .data⟩ (by simp) rfl) ⟨9, .data⟩ (by simp) rfl) ⟨7, .data⟩ (by simp) rfl) ⟨6, .data⟩ (by simp) rfl) ⟨5, .data⟩ (by simp) rfl)
            obtain rfl := hE.glob e20
            refine owes_value (v := vals 5) rfl ((wanted_is rfl rfl p2).trans rfl) (by rw [hvals]; simp [execOp, go_sem, p4]) ⟨fun _ => rfl, fun h => by omega⟩ (fun _ => rfl) fun _ _ _ h => h
          | 6, _, ho, hn, haf =>
            obtain rfl := Option.some.inj ho
            have p5 := (hv 5 _ 18 rfl (haf ⟨5, .data⟩ (by simp) rfl) rfl).1 (by omega)
            rw [hvals] at p5
            have p2 := (hv 2 _ 15 rfl (haf ⟨2, .guard⟩ (by simp) rfl) rfl).1 (by omega)
            rw [hvals] at p2
            have e20 : listed.getD 20 false = false := off_ofg hn fun q => (hcl 7 _ rfl (hcl 9 _ rfl (hcl 10 _ rfl (hcl 11 _ rfl (hcl 20 _ rfl q ⟨11, .data⟩ (by simp) rfl) ⟨10, .data⟩ (by simp) rfl) ⟨9, .data⟩ (by simp) rfl) ⟨7, .data⟩ (by simp) rfl) ⟨6, .data⟩ (by simp) rfl)
            obtain rfl := hE.glob e20
            refine owes_value (v := vals 6) rfl ((wanted_is rfl rfl p2).trans rfl) (by rw [hvals]; simp [execOp, go_sem, p5]) ⟨fun _ => rfl, fun h => by omega⟩ (fun _ => rfl) fun _ _ _ h => h
          | 7, _, ho, hn, haf =>
            obtain rfl := Option.some.inj ho
            have p6 := (hv 6 _ 19 rfl (haf ⟨6, .data⟩ (by simp) rfl) rfl).1 (by omega)
            rw [hvals] at p6
            have p2 := (hv 2 _ 15 rfl (haf ⟨2, .guard⟩ (by simp) rfl) rfl).1 (by omega)
            rw [hvals] at p2
            have e20 : listed.getD 20 false = false := off_ofg hn fun q => (hcl 9 _ rfl (hcl 10 _ rfl (hcl 11 _ rfl (hcl 20 _ rfl q ⟨11, .data⟩ (by simp) rfl) ⟨10, .data⟩ (by simp) rfl) ⟨9, .data⟩ (by simp) rfl) ⟨7, .data⟩ (by simp) rfl)
            obtain rfl := hE.glob e20
            refine owes_value (v := vals 7) rfl ((wanted_is rfl rfl p2).trans rfl) (by rw [hvals]; simp [execOp, go_sem, p6, w0]) ⟨fun _ => rfl, fun h => by omega⟩ (fun _ => rfl) fun _ _ _ h => h
          | 8, _, ho, hn, haf =>
            obtain rfl := Option.some.inj ho
            have p2 := (hv 2 _ 15 rfl (haf ⟨2, .guard⟩ (by simp) rfl) rfl).1 (by omega)
            rw [hvals] at p2
            have e20 : listed.getD 20 false = false := off_ofg hn fun q => (hcl 9 _ rfl (hcl 10 _ rfl (hcl 11 _ rfl (hcl 20 _ rfl q ⟨11, .data⟩ (by simp) rfl) ⟨10, .data⟩ (by simp) rfl) ⟨9, .data⟩ (by simp) rfl) ⟨8, .data⟩ (by simp) rfl)
            obtain rfl := hE.glob e20
            refine owes_value (v := vals 8) rfl ((wanted_is rfl rfl p2).trans rfl) (by rw [hvals]; simp [execOp, go_sem, t4]) ⟨fun _ => rfl, fun h => by omega⟩ (fun _ => rfl) fun _ _ _ h => h
          | 9, _, ho, hn, haf =>
            obtain rfl := Option.some.inj ho
            have p7 := (hv 7 _ 20 rfl (haf ⟨7, .data⟩ (by simp) rfl) rfl).1 (by omega)
            rw [hvals] at p7
            have p8 := (hv 8 _ 21 rfl (haf ⟨8, .data⟩ (by simp) rfl) rfl).1 (by omega)
            rw [hvals] at p8
            have p2 := (hv 2 _ 15 rfl (haf ⟨2, .guard⟩ (by simp) rfl) rfl).1 (by omega)
            rw [hvals] at p2
            have e20 : listed.getD 20 false = false := off_ofg hn fun q => (hcl 10 _ rfl (hcl 11 _ rfl (hcl 20 _ rfl q ⟨11, .data⟩ (by simp) rfl) ⟨10, .data⟩ (by simp) rfl) ⟨9, .data⟩ (by simp) rfl)
            obtain rfl := hE.glob e20
            refine owes_value (v := vals 9) rfl ((wanted_is rfl rfl p2).trans rfl) (by rw [hvals]; simp [execOp, go_sem, p7, p8, han]) ⟨fun _ => rfl, fun h => by omega⟩ (fun _ => rfl) fun _ _ _ h => h
          | 10, _, ho, hn, haf =>
            obtain rfl := Option.some.inj ho
            have p9 := (hv 9 _ 22 rfl (haf ⟨9, .data⟩ (by simp) rfl) rfl).1 (by omega)
            rw [hvals] at p9
            have p2 := (hv 2 _ 15 rfl (haf ⟨2, .guard⟩ (by simp) rfl) rfl).1 (by omega)
            rw [hvals] at p2
            have e20 : listed.getD 20 false = false := off_ofg hn fun q => (hcl 11 _ rfl (hcl 20 _ rfl q ⟨11, .data⟩ (by simp) rfl) ⟨10, .data⟩ (by simp) rfl)
            obtain rfl := hE.glob e20
            refine owes_value (v := vals 10) rfl ((wanted_is rfl rfl p2).trans rfl) (by rw [hvals]; simp [execOp, go_sem, p9]) ⟨fun _ => rfl, fun h => by omega⟩ (fun _ => rfl) fun _ _ _ h => h
          | 11, _, ho, hn, haf =>
            obtain rfl := Option.some.inj ho
            have p10 := (hv 10 _ 23 rfl (haf ⟨10, .data⟩ (by simp) rfl) rfl).1 (by omega)
            rw [hvals] at p10
            have p2 := (hv 2 _ 15 rfl (haf ⟨2, .guard⟩ (by simp) rfl) rfl).1 (by omega)
            rw [hvals] at p2
            have e20 : listed.getD 20 false = false := off_ofg hn fun q => (hcl 20 _ rfl q ⟨11, .data⟩ (by simp) rfl)
            obtain rfl := hE.glob e20
            refine owes_value (v := vals 11) rfl ((wanted_is rfl rfl p2).trans rfl) (by rw [hvals]; simp [execOp, go_sem, p10, wk]) ⟨fun _ => rfl, fun h => by omega⟩ (fun _ => rfl) fun _ _ _ h => h
          | 12, _, ho, hn, haf =>
            obtain rfl := Option.some.inj ho
            have p2 := (hv 2 _ 15 rfl (haf ⟨2, .guard⟩ (by simp) rfl) rfl).1 (by omega)
            rw [hvals] at p2
            have e20 : listed.getD 20 false = false := off_ofg hn fun q => (hcl 13 _ rfl (hcl 14 _ rfl (hcl 15 _ rfl (hcl 17 _ rfl (hcl 18 _ rfl (hcl 19 _ rfl (hcl 20 _ rfl q ⟨19, .data⟩ (by simp) rfl) ⟨18, .data⟩ (by simp) rfl) ⟨17, .data⟩ (by simp) rfl) ⟨15, .data⟩ (by simp) rfl) ⟨14, .data⟩ (by simp) rfl) ⟨13, .data⟩ (by simp) rfl) ⟨12, .data⟩ (by simp) rfl)
            obtain rfl := hE.glob e20
            refine owes_value (v := vals 12) rfl ((wanted_is rfl rfl p2).trans rfl) (by rw [hvals]; simp [execOp, go_sem, t1, wb1]) ⟨fun _ => rfl, fun h => by omega⟩ (fun _ => rfl) fun _ _ _ h => h
          | 13, _, ho, hn, haf =>
            obtain rfl := Option.some.inj ho
            have p12 := (hv 12 _ 25 rfl (haf ⟨12, .data⟩ (by simp) rfl) rfl).1 (by omega)
            rw [hvals] at p12
            have p2 := (hv 2 _ 15 rfl (haf ⟨2, .guard⟩ (by simp) rfl) rfl).1 (by omega)
            rw [hvals] at p2
            have e20 : listed.getD 20 false = false := off_ofg hn fun q => (hcl 14 _ rfl (hcl 15 _ rfl (hcl 17 _ rfl (hcl 18 _ rfl (hcl 19 _ rfl (hcl 20 _ rfl q ⟨19, .data⟩ (by simp) rfl) ⟨18, .data⟩ (by simp) rfl) ⟨17, .data⟩ (by simp) rfl) ⟨15, .data⟩ (by simp) rfl) ⟨14, .data⟩ (by simp) rfl) ⟨13, .data⟩ (by simp) rfl)
            obtain rfl := hE.glob e20
            refine owes_value (v := vals 13) rfl ((wanted_is rfl rfl p2).trans rfl) (by rw [hvals]; simp [execOp, go_sem, p12]) ⟨fun _ => rfl, fun h => by omega⟩ (fun _ => rfl) fun _ _ _ h => h
          | 14, _, ho, hn, haf =>
            obtain rfl := Option.some.inj ho
            have p13 := (hv 13 _ 26 rfl (haf ⟨13, .data⟩ (by simp) rfl) rfl).1 (by omega)
            rw [hvals] at p13
            have p2 := (hv 2 _ 15 rfl (haf ⟨2, .guard⟩ (by simp) rfl) rfl).1 (by omega)
            rw [hvals] at p2
            have e20 : listed.getD 20 false = false := off_ofg hn fun q => (hcl 15 _ rfl (hcl 17 _ rfl (hcl 18 _ rfl (hcl 19 _ rfl (hcl 20 _ rfl q ⟨19, .data⟩ (by simp) rfl) ⟨18, .data⟩ (by simp) rfl) ⟨17, .data⟩ (by simp) rfl) ⟨15, .data⟩ (by simp) rfl) ⟨14, .data⟩ (by simp) rfl)
            obtain rfl := hE.glob e20
            refine owes_value (v := vals 14) rfl ((wanted_is rfl rfl p2).trans rfl) (by rw [hvals]; simp [execOp, go_sem, p13]) ⟨fun _ => rfl, fun h => by omega⟩ (fun _ => rfl) fun _ _ _ h => h
          | 15, _, ho, hn, haf =>
            obtain rfl := Option.some.inj ho
            have p14 := (hv 14 _ 27 rfl (haf ⟨14, .data⟩ (by simp) rfl) rfl).1 (by omega)
            rw [hvals] at p14
            have p2 := (hv 2 _ 15 rfl (haf ⟨2, .guard⟩ (by simp) rfl) rfl).1 (by omega)
            rw [hvals] at p2
            have e20 : listed.getD 20 false = false := off_ofg hn fun q => (hcl 17 _ rfl (hcl 18 _ rfl (hcl 19 _ rfl (hcl 20 _ rfl q ⟨19, .data⟩ (by simp) rfl) ⟨18, .data⟩ (by simp) rfl) ⟨17, .data⟩ (by simp) rfl) ⟨15, .data⟩ (by simp) rfl)
            obtain rfl := hE.glob e20
            refine owes_value (v := vals 15) rfl ((wanted_is rfl rfl p2).trans rfl) (by rw [hvals]; simp [execOp, go_sem, p14, w0]) ⟨fun _ => rfl, fun h => by omega⟩ (fun _ => rfl) fun _ _ _ h => h
          | 16, _, ho, hn, haf =>
            obtain rfl := Option.some.inj ho
            have p2 := (hv 2 _ 15 rfl (haf ⟨2, .guard⟩ (by simp) rfl) rfl).1 (by omega)
            rw [hvals] at p2
            have e20 : listed.getD 20 false = false := off_ofg hn fun q => (hcl 17 _ rfl (hcl 18 _ rfl (hcl 19 _ rfl (hcl 20 _ rfl q ⟨19, .data⟩ (by simp) rfl) ⟨18, .data⟩ (by simp) rfl) ⟨17, .data⟩ (by simp) rfl) ⟨16, .data⟩ (by simp) rfl)
            obtain rfl := hE.glob e20
            refine owes_value (v := vals 16) rfl ((wanted_is rfl rfl p2).trans rfl) (by rw [hvals]; simp [execOp, go_sem, t4]) ⟨fun _ => rfl, fun h => by omega⟩ (fun _ => rfl) fun _ _ _ h => h
          | 17, _, ho, hn, haf =>
            obtain rfl := Option.some.inj ho
            have p15 := (hv 15 _ 28 rfl (haf ⟨15, .data⟩ (by simp) rfl) rfl).1 (by omega)
            rw [hvals] at p15
            have p16 := (hv 16 _ 29 rfl (haf ⟨16, .data⟩ (by simp) rfl) rfl).1 (by omega)
            rw [hvals] at p16
            have p2 := (hv 2 _ 15 rfl (haf ⟨2, .guard⟩ (by simp) rfl) rfl).1 (by omega)
            rw [hvals] at p2
            have e20 : listed.getD 20 false = false := off_ofg hn fun q => (hcl 18 _ rfl (hcl 19 _ rfl (hcl 20 _ rfl q ⟨19, .data⟩ (by simp) rfl) ⟨18, .data⟩ (by simp) rfl) ⟨17, .data⟩ (by simp) rfl)
            obtain rfl := hE.glob e20
            refine owes_value (v := vals 17) rfl ((wanted_is rfl rfl p2).trans rfl) (by rw [hvals]; simp [execOp, go_sem, p15, p16, han]) ⟨fun _ => rfl, fun h => by omega⟩ (fun _ => rfl) fun _ _ _ h => h
          | 18, _, ho, hn, haf =>
            obtain rfl := Option.some.inj ho
            have p17 := (hv 17 _ 30 rfl (haf ⟨17, .data⟩ (by simp) rfl) rfl).1 (by omega)
            rw [hvals] at p17
            have p2 := (hv 2 _ 15 rfl (haf ⟨2, .guard⟩ (by simp) rfl) rfl).1 (by omega)
            rw [hvals] at p2
            have e20 : listed.getD 20 false = false := off_ofg hn fun q => (hcl 19 _ rfl (hcl 20 _ rfl q ⟨19, .data⟩ (by simp) rfl) ⟨18, .data⟩ (by simp) rfl)
            obtain rfl := hE.glob e20
            refine owes_value (v := vals 18) rfl ((wanted_is rfl rfl p2).trans rfl) (by rw [hvals]; simp [execOp, go_sem, p17]) ⟨fun _ => rfl, fun h => by omega⟩ (fun _ => rfl) fun _ _ _ h => h
          | 19, _, ho, hn, haf =>
            obtain rfl := Option.some.inj ho
            have p18 := (hv 18 _ 31 rfl (haf ⟨18, .data⟩ (by simp) rfl) rfl).1 (by omega)
            rw [hvals] at p18
            have p2 := (hv 2 _ 15 rfl (haf ⟨2, .guard⟩ (by simp) rfl) rfl).1 (by omega)
            rw [hvals] at p2
            have e20 : listed.getD 20 false = false := off_ofg hn fun q => (hcl 20 _ rfl q ⟨19, .data⟩ (by simp) rfl)
            obtain rfl := hE.glob e20
            refine owes_value (v := vals 19) rfl ((wanted_is rfl rfl p2).trans rfl) (by rw [hvals]; simp [execOp, go_sem, p18, wv]) ⟨fun _ => rfl, fun h => by omega⟩ (fun _ => rfl) fun _ _ _ h => h
          | 20, _, ho, hn, haf =>
            obtain rfl := Option.some.inj ho
            have p3 := (hv 3 _ 16 rfl (haf ⟨3, .data⟩ (by simp) rfl) rfl).1 (by omega)
            rw [hvals] at p3
            have p11 := (hv 11 _ 24 rfl (haf ⟨11, .data⟩ (by simp) rfl) rfl).1 (by omega)
            rw [hvals] at p11
            have p19 := (hv 19 _ 32 rfl (haf ⟨19, .data⟩ (by simp) rfl) rfl).1 (by omega)
            rw [hvals] at p19
            have p2 := (hv 2 _ 15 rfl (haf ⟨2, .guard⟩ (by simp) rfl) rfl).1 (by omega)
            rw [hvals] at p2
            have e20 : listed.getD 20 false = false := off_ofg hn fun q => q
            obtain rfl := hE.glob e20
            refine owes_round rfl ((wanted_is rfl rfl p2).trans rfl) (by simp [execOp, go_sem, p3, p11, p19, hy]) hR fun e X' h => ?_
            have st : ∀ j u, listed.getD j false = true → RiP vals (fun v X => ∃ b : Bool, v = .bool b ∧ (b = true → J (pre ++ [(kk, kv)]) X ∧ KpS S wr.drew X) ∧ (b = false → Jx (pre ++ [(kk, kv)]) X)) listed j u wr.drew → RiP vals (fun v X => ∃ b : Bool, v = .bool b ∧ (b = true → J (pre ++ [(kk, kv)]) X ∧ KpS S wr.drew X) ∧ (b = false → Jx (pre ++ [(kk, kv)]) X)) (listed.setIfInBounds 20 true) j u X' := fun j u hj hp => ⟨hp.1, fun h => by
              rcases h with rfl | rfl
              · rw [e20] at hj; cases hj
              · rw [hcl 21 _ rfl hj ⟨20, .data⟩ (by simp) rfl] at e20; cases e20⟩
            have hg : (listed.setIfInBounds 20 true).getD 20 false = false → X' = wr.drew := fun h => by
              rw [getD_set, if_pos ⟨rfl, getD_lt hn⟩] at h; cases h
            rcases h with ⟨rfl, h1, h2⟩ | ⟨rfl, h1⟩
            · exact ⟨_, rfl, ⟨fun h => by omega, fun _ => ⟨true, rfl, fun _ => ⟨h1, h2⟩, fun e => by cases e⟩⟩, hg, st⟩
            · exact ⟨_, rfl, ⟨fun h => by omega, fun _ => ⟨false, rfl, fun e => (by cases e), fun _ => h1⟩⟩, hg, st⟩
          | 21, _, ho, hn, haf =>
            obtain rfl := Option.some.inj ho
            have p2 := (hv 2 _ 15 rfl (haf ⟨2, .data⟩ (by simp) rfl) rfl).1 (by omega)
            rw [hvals] at p2
            obtain ⟨b, p20, x1, x2⟩ := (hv 20 _ 33 rfl (haf ⟨20, .data⟩ (by simp) rfl) rfl).2 (.inl rfl)
            refine owes_value (v := .bool b) rfl (by rfl) (by simp [execOp, go_sem, p2, p20]) ⟨fun h => by omega, fun _ => ⟨b, rfl, x1, x2⟩⟩ (fun h => hE.glob (by rw [getD_set, if_neg (by omega)] at h; exact h)) fun _ _ _ h => h
        case hend =>
          intro a X hE
          obtain ⟨b, pb, x1, x2⟩ := (hE.vals 21 _ 34 rfl (by rfl) rfl).2 (.inr rfl)
          have r0 := hE.rest 0 (rest_of (by kernel_rfl))
          have r1 := hE.rest 1 (rest_of (by kernel_rfl))
          have r2 := hE.rest 2 (rest_of (by kernel_rfl))
          have r3 := hE.rest 3 (rest_of (by kernel_rfl))
          have r4 := hE.rest 4 (rest_of (by kernel_rfl))
          have r5 := hE.rest 5 (rest_of (by kernel_rfl))
          have r6 := hE.rest 6 (rest_of (by kernel_rfl))
          have r7 := hE.rest 7 (rest_of (by kernel_rfl))
          have r8 := hE.rest 8 (rest_of (by kernel_rfl))
          have r9 := hE.rest 9 (rest_of (by kernel_rfl))
          have r10 := hE.rest 10 (rest_of (by kernel_rfl))
          have r11 := hE.rest 11 (rest_of (by kernel_rfl))
          have r12 := hE.rest 12 (rest_of (by kernel_rfl))
          have r35 := hE.rest 35 (rest_of (by kernel_rfl))
          have r36 := hE.rest 36 (rest_of (by kernel_rfl))
          have r37 := hE.rest 37 (rest_of (by kernel_rfl))
          have r38 := hE.rest 38 (rest_of (by kernel_rfl))
          have r39 := hE.rest 39 (rest_of (by kernel_rfl))
          have r40 := hE.rest 40 (rest_of (by kernel_rfl))
          have r41 := hE.rest 41 (rest_of (by kernel_rfl))
          have r42 := hE.rest 42 (rest_of (by kernel_rfl))
          have r43 := hE.rest 43 (rest_of (by kernel_rfl))
          have r44 := hE.rest 44 (rest_of (by kernel_rfl))
          simp only [List.getElem?_toArray, List.getElem?_cons_zero, List.getElem?_cons_succ, Option.getD_some] at r0 r1 r2 r3 r4 r5 r6 r7 r8 r9 r10 r11 r12 r35 r36 r37 r38 r39 r40 r41 r42 r43 r44
          have hsz := hE.tsize
          have hdf := hE.defers
          obtain ⟨tm, df⟩ := a
          simp only at hsz hdf pb r0 r1 r2 r3 r4 r5 r6 r7 r8 r9 r10 r11 r12 r35 r36 r37 r38 r39 r40 r41 r42 r43 r44
          have htm := arr_out 45 tm hsz undef
          simp only [List.range, List.range.loop, List.map_cons, List.map_nil] at htm
          rw [pb, r0, r1, r2, r3, r4, r5, r6, r7, r8, r9, r10, r11, r12, r35, r36, r37, r38, r39, r40, r41, r42, r43, r44] at htm
          subst hdf
          rw [htm]
          clear htm hE pb hsz r0 r1 r2 r3 r4 r5 r6 r7 r8 r9 r10 r11 r12 r35 r36 r37 r38 r39 r40 r41 r42 r43 r44
          cases b with
          | false =>
            have HX := hidb (x2 rfl)
            clear x1 x2
            gi_wp2
            go_end0
            exact ⟨⟨_, rfl⟩, .inr ⟨_, HPre.out, HX.out⟩⟩
          | true =>
            obtain ⟨j1, k1⟩ := x1 rfl
            have hTX : TS tb g nn cap root f X := HTk.out X k1
            have d1 := HB1.out X k1
            have d0 := hTX.c0
            have dk := hTX.k han
            rw [HK.out] at dk
            have HN2 := hidb (HN.out X j1 k1)
            have HAX := hidb fun M => HAb.out (X.drewN M) kk (hTX.drewN M)
            clear x1 x2 j1 k1 hTX c0 c1 ck cv hR hy HN HTk HB1 HAb
            generalize T.above f kk 0 = at2 at *
            gi_wp2
            have eA : ∀ args w, (callFunc 59 args).run Try.prog w = .ok (.enter 59 args) w := enters_of Try.func59 (by kernel_rfl) rfl
            obtain ⟨vals2, hvals2⟩ : ∃ vals : Nat → Value, vals = fun i => match i with | 0 => .pointer (some ⟨tb, 0, none⟩) | 1 => .pointer (some ⟨tb, 0, none⟩) | 2 => .pointer (some ⟨tb, 0, none⟩) | 3 => .pointer (some ⟨tb, 0, none⟩) | 4 => .slice (some ⟨g, 0, none⟩) nn cap | 5 => .int .i64 at_ | 6 => .pointer (some ⟨g, at_ * 5, none⟩) | 7 => .pointer (some ⟨g, at_ * 5, none⟩) | 8 => sv kk | _ => .int .i64 at2 := ⟨_, rfl⟩
            refine wpIn_region_eachg (by kernel_rfl) 45 rfl (by kernel_rfl) (fun _ Y => ∃ M, Y = X.drewN M) (fun _ j v _ => v = vals2 j) ⟨1, rfl⟩ ?hop2 ?hend2
            case hop2 =>
              intro i o ho listed a Y hE hn haf
              have hi : i < 11 := (Array.getElem?_eq_some_iff.1 ho).1
              have hcl := hE.closed
              have hv := hE.vals
              obtain ⟨M, rfl⟩ := hE.glob
              have t1 : a.tmps[1]?.getD undef = .pointer (some ⟨b1, 0, none⟩) := hE.rest 1 (rest_of (by kernel_rfl))
              match i, hi, ho, hn, haf with
              | 0, _, ho, hn, haf =>
                obtain rfl := Option.some.inj ho
                exact owes_value (v := vals2 0) rfl (by rfl) (by rw [hvals2]; simp [execOp, go_sem, t1, d1]) rfl ⟨M, rfl⟩ fun _ _ _ h => h
              | 1, _, ho, hn, haf =>
                obtain rfl := Option.some.inj ho
                exact owes_value (v := vals2 1) rfl (by rfl) (by rw [hvals2]; simp [execOp, go_sem, t1, d1]) rfl ⟨M, rfl⟩ fun _ _ _ h => h
              | 2, _, ho, hn, haf =>
                obtain rfl := Option.some.inj ho
                have p1 := hv 1 _ 36 rfl (haf ⟨1, .data⟩ (by simp) rfl) rfl
                rw [hvals2] at p1
                exact owes_value (v := vals2 2) rfl (by rfl) (by rw [hvals2]; simp [execOp, go_sem, p1]) rfl ⟨M, rfl⟩ fun _ _ _ h => h
              | 3, _, ho, hn, haf =>
                obtain rfl := Option.some.inj ho
                have p2 := hv 2 _ 37 rfl (haf ⟨2, .data⟩ (by simp) rfl) rfl
                rw [hvals2] at p2
                exact owes_value (v := vals2 3) rfl (by rfl) (by rw [hvals2]; simp [execOp, go_sem, p2]) rfl ⟨M, rfl⟩ fun _ _ _ h => h
              | 4, _, ho, hn, haf =>
                obtain rfl := Option.some.inj ho
                have p3 := hv 3 _ 38 rfl (haf ⟨3, .data⟩ (by simp) rfl) rfl
                rw [hvals2] at p3
                exact owes_value (v := vals2 4) rfl (by rfl) (by rw [hvals2]; simp [execOp, go_sem, p3, d0]) rfl ⟨M, rfl⟩ fun _ _ _ h => h
              | 5, _, ho, hn, haf =>
                obtain rfl := Option.some.inj ho
                have e10 : listed.getD 10 false = false := off_ofg hn fun q => hcl 6 _ rfl (hcl 7 _ rfl (hcl 8 _ rfl (hcl 9 _ rfl (hcl 10 _ rfl q ⟨9, .data⟩ (by simp) rfl) ⟨8, .data⟩ (by simp) rfl) ⟨7, .data⟩ (by simp) rfl) ⟨6, .data⟩ (by simp) rfl) ⟨5, .data⟩ (by simp) rfl
                have t4 : a.tmps[4]?.getD undef = .int .i64 at_ := hE.old 10 _ 4 rfl e10 rfl
                exact owes_value (v := vals2 5) rfl (by rfl) (by rw [hvals2]; simp [execOp, go_sem, t4]) rfl ⟨M, rfl⟩ fun _ _ _ h => h
              | 6, _, ho, hn, haf =>
                obtain rfl := Option.some.inj ho
                have p4 := hv 4 _ 39 rfl (haf ⟨4, .data⟩ (by simp) rfl) rfl
                rw [hvals2] at p4
                have p5 := hv 5 _ 40 rfl (haf ⟨5, .data⟩ (by simp) rfl) rfl
                rw [hvals2] at p5
                exact owes_value (v := vals2 6) rfl (by rfl) (by rw [hvals2]; simp [execOp, go_sem, p4, p5, han]) rfl ⟨M, rfl⟩ fun _ _ _ h => h
              | 7, _, ho, hn, haf =>
                obtain rfl := Option.some.inj ho
                have p6 := hv 6 _ 41 rfl (haf ⟨6, .data⟩ (by simp) rfl) rfl
                rw [hvals2] at p6
                exact owes_value (v := vals2 7) rfl (by rfl) (by rw [hvals2]; simp [execOp, go_sem, p6]) rfl ⟨M, rfl⟩ fun _ _ _ h => h
              | 8, _, ho, hn, haf =>
                obtain rfl := Option.some.inj ho
                have p7 := hv 7 _ 42 rfl (haf ⟨7, .data⟩ (by simp) rfl) rfl
                rw [hvals2] at p7
                exact owes_value (v := vals2 8) rfl (by rfl) (by rw [hvals2]; simp [execOp, go_sem, p7, dk]) rfl ⟨M, rfl⟩ fun _ _ _ h => h
              | 9, _, ho, hn, haf =>
                obtain rfl := Option.some.inj ho
                have p0 := hv 0 _ 35 rfl (haf ⟨0, .data⟩ (by simp) rfl) rfl
                rw [hvals2] at p0
                have p8 := hv 8 _ 43 rfl (haf ⟨8, .data⟩ (by simp) rfl) rfl
                rw [hvals2] at p8
                exact owes_call rfl (by rfl) (by simp [execOp, go_sem, p0, p8, eA]) (callsIn_wide.2 (HAX.out M)) fun e Y' ⟨h1, m, h2⟩ => ⟨_, h1, by rw [hvals2]; rfl, ⟨M + m, by rw [h2, World.drewN_drewN]⟩, fun _ _ _ h => h⟩
              | 10, _, ho, hn, haf =>
                obtain rfl := Option.some.inj ho
                have p9 := hv 9 _ 44 rfl (haf ⟨9, .data⟩ (by simp) rfl) rfl
                rw [hvals2] at p9
                exact owes_value (v := vals2 10) rfl (by rfl) (by rw [hvals2]; simp [execOp, go_sem, p9]) rfl ⟨M, rfl⟩ fun _ _ _ h => h
            case hend2 =>
              intro a Y hE
              obtain ⟨M, rfl⟩ := hE.glob
              have pb := hE.vals 10 _ 4 rfl (by rfl) rfl
              rw [hvals2] at pb
              simp only at pb
              have r0 := hE.rest 0 (rest_of (by kernel_rfl))
              have r1 := hE.rest 1 (rest_of (by kernel_rfl))
              have r2 := hE.rest 2 (rest_of (by kernel_rfl))
              have r3 := hE.rest 3 (rest_of (by kernel_rfl))
              have r5 := hE.rest 5 (rest_of (by kernel_rfl))
              have r6 := hE.rest 6 (rest_of (by kernel_rfl))
              have r7 := hE.rest 7 (rest_of (by kernel_rfl))
              have r8 := hE.rest 8 (rest_of (by kernel_rfl))
              have r9 := hE.rest 9 (rest_of (by kernel_rfl))
              have r10 := hE.rest 10 (rest_of (by kernel_rfl))
              have r11 := hE.rest 11 (rest_of (by kernel_rfl))
              have r12 := hE.rest 12 (rest_of (by kernel_rfl))
              have r13 := hE.rest 13 (rest_of (by kernel_rfl))
              have r14 := hE.rest 14 (rest_of (by kernel_rfl))
              have r15 := hE.rest 15 (rest_of (by kernel_rfl))
              have r16 := hE.rest 16 (rest_of (by kernel_rfl))
              have r17 := hE.rest 17 (rest_of (by kernel_rfl))
              have r18 := hE.rest 18 (rest_of (by kernel_rfl))
              have r19 := hE.rest 19 (rest_of (by kernel_rfl))
              have r20 := hE.rest 20 (rest_of (by kernel_rfl))
              have r21 := hE.rest 21 (rest_of (by kernel_rfl))
              have r22 := hE.rest 22 (rest_of (by kernel_rfl))
              have r23 := hE.rest 23 (rest_of (by kernel_rfl))
              have r24 := hE.rest 24 (rest_of (by kernel_rfl))
              have r25 := hE.rest 25 (rest_of (by kernel_rfl))
              have r26 := hE.rest 26 (rest_of (by kernel_rfl))
              have r27 := hE.rest 27 (rest_of (by kernel_rfl))
              have r28 := hE.rest 28 (rest_of (by kernel_rfl))
              have r29 := hE.rest 29 (rest_of (by kernel_rfl))
              have r30 := hE.rest 30 (rest_of (by kernel_rfl))
              have r31 := hE.rest 31 (rest_of (by kernel_rfl))
              have r32 := hE.rest 32 (rest_of (by kernel_rfl))
              have r33 := hE.rest 33 (rest_of (by kernel_rfl))
              have r34 := hE.rest 34 (rest_of (by kernel_rfl))
              simp only [List.getElem?_toArray, List.getElem?_cons_zero, List.getElem?_cons_succ, Option.getD_some] at r0 r1 r2 r3 r5 r6 r7 r8 r9 r10 r11 r12 r13 r14 r15 r16 r17 r18 r19 r20 r21 r22 r23 r24 r25 r26 r27 r28 r29 r30 r31 r32 r33 r34
              have hsz := hE.tsize
              have hdf := hE.defers
              obtain ⟨tm2, df⟩ := a
              simp only at hsz hdf pb r0 r1 r2 r3 r5 r6 r7 r8 r9 r10 r11 r12 r13 r14 r15 r16 r17 r18 r19 r20 r21 r22 r23 r24 r25 r26 r27 r28 r29 r30 r31 r32 r33 r34
              have htm := arr_out 45 tm2 hsz undef
              simp only [List.range, List.range.loop, List.map_cons, List.map_nil] at htm
              rw [pb, r0, r1, r2, r3, r5, r6, r7, r8, r9, r10, r11, r12, r13, r14, r15, r16, r17, r18, r19, r20, r21, r22, r23, r24, r25, r26, r27, r28, r29, r30, r31, r32, r33, r34] at htm
              subst hdf
              rw [htm]
              clear htm hE pb hsz r0 r1 r2 r3 r5 r6 r7 r8 r9 r10 r11 r12 r13 r14 r15 r16 r17 r18 r19 r20 r21 r22 r23 r24 r25 r26 r27 r28 r29 r30 r31 r32 r33 r34
              gi_wp2
              gi_roundg k'
              case measure => exact HL.out
              case rel => exact ⟨at2, rfl, hidb (HN2.out _)⟩
  · have H1 : Hid (∀ M, RiS f S W B0 B0.length (T.find f from_) J (W.drewN M)) := hidb fun M => by rw [s1'.out hf]; exact H0.out M
    have hfz : ((T.find f from_ : Int) == 0) = false := by simpa using hf
    clear H0 s2' s1'
    generalize T.find f from_ = at0 at *
    gi_wp2_with (first
      | (refine ⟨trivial, fun e => (by cases e), ?_⟩; gi_at_call 54; refine (callsIn_wide.2 HF.out).mono ?_; clear HF; rintro e w1 ⟨rfl, m1, rfl⟩)
      | fail)
    gi_loopg [4] B0.length (fun k v wr => ∃ at_ : Nat, v = .int .i64 at_ ∧ Hid (RiS f S W B0 k at_ J wr))
    case atStart => exact ⟨at0, rfl, hidb (H1.out _)⟩
    case round =>
      obtain ⟨at_, rfl, HS⟩ := hrel
      clear c1 c2
      by_cases ha : at_ = 0
      · subst ha
        have HJ := hidb (HEnd.out _ _ HS.out)
        clear HS HRd
        gi_wp2
        obtain ⟨vals, hvals⟩ : ∃ vals : Nat → Value, vals = fun i => match i with | 0 => .int .i64 0 | 1 => .bool false | 2 => .bool false | 21 => .bool false | _ => undef := ⟨_, rfl⟩
        refine wpIn_region_eachg (by kernel_rfl) 45 rfl (by kernel_rfl) (fun _ X => X = wr.drew) (fun _ j v _ => v = vals j) rfl ?hop ?hend
        case hop =>
          intro i o ho listed a X hE hn haf
          have hi : i < 22 := (Array.getElem?_eq_some_iff.1 ho).1
          have hv := hE.vals
          obtain rfl := hE.glob
          have t4 : a.tmps[4]?.getD undef = .int .i64 0 := hE.rest 4 (rest_of (by kernel_rfl))
          match i, hi, ho, hn, haf with
          | 0, _, ho, hn, haf =>
            obtain rfl := Option.some.inj ho
            exact owes_value (v := vals 0) rfl (by rfl) (by rw [hvals]; simp [execOp, go_sem, t4]) rfl rfl fun _ _ _ h => h
          | 1, _, ho, hn, haf =>
            obtain rfl := Option.some.inj ho
            have p0 := hv 0 _ 13 rfl (haf ⟨0, .data⟩ (by simp) rfl) rfl
            rw [hvals] at p0
            exact owes_value (v := vals 1) rfl (by rfl) (by rw [hvals]; simp [execOp, go_sem, p0]) rfl rfl fun _ _ _ h => h
          | 2, _, ho, hn, haf =>
            obtain rfl := Option.some.inj ho
            have p1 := hv 1 _ 14 rfl (haf ⟨1, .data⟩ (by simp) rfl) rfl
            rw [hvals] at p1
            exact owes_value (v := vals 2) rfl (by rfl) (by rw [hvals]; simp [execOp, go_sem, p1]) rfl rfl fun _ _ _ h => h
          | 3, _, ho, hn, haf =>
            obtain rfl := Option.some.inj ho
            have p2 := hv 2 _ 15 rfl (haf ⟨2, .guard⟩ (by simp) rfl) rfl
            rw [hvals] at p2
            exact owes_none rfl ((wanted_is rfl rfl p2).trans rfl) (by rw [hvals]; rfl) rfl fun _ _ _ h => h
          | 4, _, ho, hn, haf =>
            obtain rfl := Option.some.inj ho
            have p2 := hv 2 _ 15 rfl (haf ⟨2, .guard⟩ (by simp) rfl) rfl
            rw [hvals] at p2
            exact owes_none rfl ((wanted_is rfl rfl p2).trans rfl) (by rw [hvals]; rfl) rfl fun _ _ _ h => h
          | 5, _, ho, hn, haf =>
            obtain rfl := Option.some.inj ho
            have p2 := hv 2 _ 15 rfl (haf ⟨2, .guard⟩ (by simp) rfl) rfl
            rw [hvals] at p2
            exact owes_none rfl ((wanted_is rfl rfl p2).trans rfl) (by rw [hvals]; rfl) rfl fun _ _ _ h => h
          | 6, _, ho, hn, haf =>
            obtain rfl := Option.some.inj ho
            have p2 := hv 2 _ 15 rfl (haf ⟨2, .guard⟩ (by simp) rfl) rfl
            rw [hvals] at p2
            exact owes_none rfl ((wanted_is rfl rfl p2).trans rfl) (by rw [hvals]; rfl) rfl fun _ _ _ h => h
          | 7, _, ho, hn, haf =>
            obtain rfl := Option.some.inj ho
            have p2 := hv 2 _ 15 rfl (haf ⟨2, .guard⟩ (by simp) rfl) rfl
            rw [hvals] at p2
            exact owes_none rfl ((wanted_is rfl rfl p2).trans rfl) (by rw [hvals]; rfl) rfl fun _ _ _ h => h
          | 8, _, ho, hn, haf =>
            obtain rfl := Option.some.inj ho
            have p2 := hv 2 _ 15 rfl (haf ⟨2, .guard⟩ (by simp) rfl) rfl
            rw [hvals] at p2
            exact owes_none rfl ((wanted_is rfl rfl p2).trans rfl) (by rw [hvals]; rfl) rfl fun _ _ _ h => h
          | 9, _, ho, hn, haf =>
            obtain rfl := Option.some.inj ho
            have p2 := hv 2 _ 15 rfl (haf ⟨2, .guard⟩ (by simp) rfl) rfl
            rw [hvals] at p2
            exact owes_none rfl ((wanted_is rfl rfl p2).trans rfl) (by rw [hvals]; rfl) rfl fun _ _ _ h => h
          | 10, _, ho, hn, haf =>
            obtain rfl := Option.some.inj ho
            have p2 := hv 2 _ 15 rfl (haf ⟨2, .guard⟩ (by simp) rfl) rfl
            rw [hvals] at p2
            exact owes_none rfl ((wanted_is rfl rfl p2).trans rfl) (by rw [hvals]; rfl) rfl fun _ _ _ h => h
          | 11, _, ho, hn, haf =>
            obtain rfl := Option.some.inj ho
            have p2 := hv 2 _ 15 rfl (haf ⟨2, .guard⟩ (by simp) rfl) rfl
            rw [hvals] at p2
            exact owes_none rfl ((wanted_is rfl rfl p2).trans rfl) (by rw [hvals]; rfl) rfl fun _ _ _ h => h
          | 12, _, ho, hn, haf =>
            obtain rfl := Option.some.inj ho
            have p2 := hv 2 _ 15 rfl (haf ⟨2, .guard⟩ (by simp) rfl) rfl
            rw [hvals] at p2
            exact owes_none rfl ((wanted_is rfl rfl p2).trans rfl) (by rw [hvals]; rfl) rfl fun _ _ _ h => h
          | 13, _, ho, hn, haf =>
            obtain rfl := Option.some.inj ho
            have p2 := hv 2 _ 15 rfl (haf ⟨2, .guard⟩ (by simp) rfl) rfl
            rw [hvals] at p2
            exact owes_none rfl ((wanted_is rfl rfl p2).trans rfl) (by rw [hvals]; rfl) rfl fun _ _ _ h => h
          | 14, _, ho, hn, haf =>
            obtain rfl := Option.some.inj ho
            have p2 := hv 2 _ 15 rfl (haf ⟨2, .guard⟩ (by simp) rfl) rfl
            rw [hvals] at p2
            exact owes_none rfl ((wanted_is rfl rfl p2).trans rfl) (by rw [hvals]; rfl) rfl fun _ _ _ h => h
          | 15, _, ho, hn, haf =>
            obtain rfl := Option.some.inj ho
            have p2 := hv 2 _ 15 rfl (haf ⟨2, .guard⟩ (by simp) rfl) rfl
            rw [hvals] at p2
            exact owes_none rfl ((wanted_is rfl rfl p2).trans rfl) (by rw [hvals]; rfl) rfl fun _ _ _ h => h
          | 16, _, ho, hn, haf =>
            obtain rfl := Option.some.inj ho
            have p2 := hv 2 _ 15 rfl (haf ⟨2, .guard⟩ (by simp) rfl) rfl
            rw [hvals] at p2
            exact owes_none rfl ((wanted_is rfl rfl p2).trans rfl) (by rw [hvals]; rfl) rfl fun _ _ _ h => h
          | 17, _, ho, hn, haf =>
            obtain rfl := Option.some.inj ho
            have p2 := hv 2 _ 15 rfl (haf ⟨2, .guard⟩ (by simp) rfl) rfl
            rw [hvals] at p2
            exact owes_none rfl ((wanted_is rfl rfl p2).trans rfl) (by rw [hvals]; rfl) rfl fun _ _ _ h => h
          | 18, _, ho, hn, haf =>
            obtain rfl := Option.some.inj ho
            have p2 := hv 2 _ 15 rfl (haf ⟨2, .guard⟩ (by simp) rfl) rfl
            rw [hvals] at p2
            exact owes_none rfl ((wanted_is rfl rfl p2).trans rfl) (by rw [hvals]; rfl) rfl fun _ _ _ h => h
          | 19, _, ho, hn, haf =>
            obtain rfl := Option.some.inj ho
            have p2 := hv 2 _ 15 rfl (haf ⟨2, .guard⟩ (by simp) rfl) rfl
            rw [hvals] at p2
            exact owes_none rfl ((wanted_is rfl rfl p2).trans rfl) (by rw [hvals]; rfl) rfl fun _ _ _ h => h
          | 20, _, ho, hn, haf =>
            obtain rfl := Option.some.inj ho
            have p2 := hv 2 _ 15 rfl (haf ⟨2, .guard⟩ (by simp) rfl) rfl
            rw [hvals] at p2
            exact owes_none rfl ((wanted_is rfl rfl p2).trans rfl) (by rw [hvals]; rfl) rfl fun _ _ _ h => h
          | 21, _, ho, hn, haf =>
            obtain rfl := Option.some.inj ho
            have p2 := hv 2 _ 15 rfl (haf ⟨2, .data⟩ (by simp) rfl) rfl
            rw [hvals] at p2
            exact owes_value (v := vals 21) rfl (by rfl) (by rw [hvals]; simp [execOp, go_sem, p2]) rfl rfl fun _ _ _ h => h
        case hend =>
          intro a X hE
          obtain rfl := hE.glob
          have pb := hE.vals 21 _ 34 rfl (by rfl) rfl
          rw [hvals] at pb
          simp only at pb
          have r0 := hE.rest 0 (rest_of (by kernel_rfl))
          have r1 := hE.rest 1 (rest_of (by kernel_rfl))
          have r2 := hE.rest 2 (rest_of (by kernel_rfl))
          have r3 := hE.rest 3 (rest_of (by kernel_rfl))
          have r4 := hE.rest 4 (rest_of (by kernel_rfl))
          have r5 := hE.rest 5 (rest_of (by kernel_rfl))
          have r6 := hE.rest 6 (rest_of (by kernel_rfl))
          have r7 := hE.rest 7 (rest_of (by kernel_rfl))
          have r8 := hE.rest 8 (rest_of (by kernel_rfl))
          have r9 := hE.rest 9 (rest_of (by kernel_rfl))
          have r10 := hE.rest 10 (rest_of (by kernel_rfl))
          have r11 := hE.rest 11 (rest_of (by kernel_rfl))
          have r12 := hE.rest 12 (rest_of (by kernel_rfl))
          have r35 := hE.rest 35 (rest_of (by kernel_rfl))
          have r36 := hE.rest 36 (rest_of (by kernel_rfl))
          have r37 := hE.rest 37 (rest_of (by kernel_rfl))
          have r38 := hE.rest 38 (rest_of (by kernel_rfl))
          have r39 := hE.rest 39 (rest_of (by kernel_rfl))
          have r40 := hE.rest 40 (rest_of (by kernel_rfl))
          have r41 := hE.rest 41 (rest_of (by kernel_rfl))
          have r42 := hE.rest 42 (rest_of (by kernel_rfl))
          have r43 := hE.rest 43 (rest_of (by kernel_rfl))
          have r44 := hE.rest 44 (rest_of (by kernel_rfl))
          simp only [List.getElem?_toArray, List.getElem?_cons_zero, List.getElem?_cons_succ, Option.getD_some] at r0 r1 r2 r3 r4 r5 r6 r7 r8 r9 r10 r11 r12 r35 r36 r37 r38 r39 r40 r41 r42 r43 r44
          have hsz := hE.tsize
          have hdf := hE.defers
          obtain ⟨tm, df⟩ := a
          simp only at hsz hdf pb r0 r1 r2 r3 r4 r5 r6 r7 r8 r9 r10 r11 r12 r35 r36 r37 r38 r39 r40 r41 r42 r43 r44
          have htm := arr_out 45 tm hsz undef
          simp only [List.range, List.range.loop, List.map_cons, List.map_nil] at htm
          rw [pb, r0, r1, r2, r3, r4, r5, r6, r7, r8, r9, r10, r11, r12, r35, r36, r37, r38, r39, r40, r41, r42, r43, r44] at htm
          subst hdf
          rw [htm]
          clear htm hE pb hsz r0 r1 r2 r3 r4 r5 r6 r7 r8 r9 r10 r11 r12 r35 r36 r37 r38 r39 r40 r41 r42 r43 r44
          gi_wp2
          go_end0
          exact ⟨⟨_, rfl⟩, .inl (HDr.out _ _ 1 HJ.out)⟩
      · obtain ⟨han, hT, c1, pre, k', hk', hj, hpre, hnx⟩ := HRd.out _ _ _ HS.out ha
        have c0 := hT.c0
        have ck := hT.k han
        have cv := hT.v han
        have hz : ((at_ : Int) == 0) = false := by simpa using ha
        have hz2 : ((at_ : Int) != 0) = true := by simpa using ha
        obtain ⟨fn, tmps, assign, body, hy, hR⟩ := hY pre _ wr.drew (hJ _ wr 1 hj) hpre
        have hmix : Try.prog.follows .mixedOrders = true := by kernel_rfl
        have HN : Hid (∀ W', J (pre ++ [((f at_).k, (f at_).v)]) W' → KpS S wr.drew W' → ∀ M, RiS f S W B0 k' (T.above f (f at_).k 0) J (W'.drewN M)) := hidb hnx
        have HL := hidb hk'
        have HPre := hidb hpre
        have HTk : Hid (∀ X, KpS S wr.drew X → TS tb g nn cap root f X) := hidb fun X hX => hT.keep (hX tb (HSt.out)) (hX g HSg.out)
        have HB1 : Hid (∀ X, KpS S wr.drew X → X.cell? ⟨b1, 0, none⟩ = some (.pointer (some ⟨tb, 0, none⟩))) := hidb fun X hX => by
          unfold World.cell? at c1 ⊢
          rw [hX b1 HSb.out]
          exact c1
        have HK := hidb (rfl : (f at_).k = (f at_).k)
        generalize hkk : (f at_).k = kk at HK ck cv hy hR HN HPre
        clear hnx hj hpre HS HRd HEnd hk'
        replace HK := hidb hkk
        clear hkk hT
        generalize (f at_).v = kv at *
        gi_wp2
        obtain ⟨vals, hvals⟩ : ∃ vals : Nat → Value, vals = fun i => match i with | 0 => .int .i64 at_ | 1 => .bool true | 2 => .bool true | 3 => .func (.yield l) #[] #[] | 4 => .pointer (some ⟨tb, 0, none⟩) | 5 => .pointer (some ⟨tb, 0, none⟩) | 6 => .pointer (some ⟨tb, 0, none⟩) | 7 => .slice (some ⟨g, 0, none⟩) nn cap | 8 => .int .i64 at_ | 9 => .pointer (some ⟨g, at_ * 5, none⟩) | 10 => .pointer (some ⟨g, at_ * 5, none⟩) | 11 => sv kk | 12 => .pointer (some ⟨tb, 0, none⟩) | 13 => .pointer (some ⟨tb, 0, none⟩) | 14 => .pointer (some ⟨tb, 0, none⟩) | 15 => .slice (some ⟨g, 0, none⟩) nn cap | 16 => .int .i64 at_ | 17 => .pointer (some ⟨g, at_ * 5, none⟩) | 18 => .pointer (some ⟨g, at_ * 5 + 1, none⟩) | _ => sv kv := ⟨_, rfl⟩
        refine wpIn_region_eachg (by kernel_rfl) 45 rfl (by kernel_rfl) (fun listed X => listed.getD 20 false = false → X = wr.drew) (RiP vals fun v X => ∃ b : Bool, v = .bool b ∧ (b = true → J (pre ++ [(kk, kv)]) X ∧ KpS S wr.drew X) ∧ (b = false → Jx (pre ++ [(kk, kv)]) X)) (fun _ => rfl) ?hop ?hend
        case hop =>
          intro i o ho listed a X hE hn haf
          have hi : i < 22 := (Array.getElem?_eq_some_iff.1 ho).1
          have hcl := hE.closed
          have hv := hE.vals
          have t0 : a.tmps[0]?.getD undef = .func (.yield l) #[] #[] := hE.rest 0 (rest_of (by kernel_rfl))
          have t1 : a.tmps[1]?.getD undef = .pointer (some ⟨b1, 0, none⟩) := hE.rest 1 (rest_of (by kernel_rfl))
          have t4 : a.tmps[4]?.getD undef = .int .i64 at_ := hE.rest 4 (rest_of (by kernel_rfl))
          have wb1 : wr.drew.cell? ⟨b1, 0, none⟩ = some (.pointer (some ⟨tb, 0, none⟩)) := c1
          have w0 : wr.drew.cell? ⟨tb, 0, none⟩ = some (.slice (some ⟨g, 0, none⟩) nn cap) := c0
          have wk : wr.drew.cell? ⟨g, at_ * 5, none⟩ = some (sv kk) := ck
          have wv : wr.drew.cell? ⟨g, at_ * 5 + 1, none⟩ = some (sv kv) := cv
          match i, hi, ho, hn, haf with
          | 0, _, ho, hn, haf =>
            obtain rfl := Option.some.inj ho
            have e20 : listed.getD 20 false = false := off_ofg hn fun q => (hcl 1 _ rfl (hcl 2 _ rfl (hcl 3 _ rfl (hcl 20 _ rfl q ⟨3, .data⟩ (by simp) rfl) ⟨2, .guard⟩ (by simp) rfl) ⟨1, .data⟩ (by simp) rfl) ⟨0, .data⟩ (by simp) rfl)
            obtain rfl := hE.glob e20
            refine owes_value (v := vals 0) rfl (by rfl) (by rw [hvals]; simp [execOp, go_sem, t4]) ⟨fun _ => rfl, fun h => by omega⟩ (fun _ => rfl) fun _ _ _ h => h
          | 1, _, ho, hn, haf =>
            obtain rfl := Option.some.inj ho
            have p0 := (hv 0 _ 13 rfl (haf ⟨0, .data⟩ (by simp) rfl) rfl).1 (by omega)
            rw [hvals] at p0
            have e20 : listed.getD 20 false = false := off_ofg hn fun q => (hcl 2 _ rfl (hcl 3 _ rfl (hcl 20 _ rfl q ⟨3, .data⟩ (by simp) rfl) ⟨2, .guard⟩ (by simp) rfl) ⟨1, .data⟩ (by simp) rfl)
            obtain rfl := hE.glob e20
            refine owes_value (v := vals 1) rfl (by rfl) (by rw [hvals]; simp [execOp, go_sem, p0, hz2]) ⟨fun _ => rfl, fun h => by omega⟩ (fun _ => rfl) fun _ _ _ h => h
          | 2, _, ho, hn, haf =>
            obtain rfl := Option.some.inj ho
            have p1 := (hv 1 _ 14 rfl (haf ⟨1, .data⟩ (by simp) rfl) rfl).1 (by omega)
            rw [hvals] at p1
            have e20 : listed.getD 20 false = false := off_ofg hn fun q => (hcl 3 _ rfl (hcl 20 _ rfl q ⟨3, .data⟩ (by simp) rfl) ⟨2, .guard⟩ (by simp) rfl)
            obtain rfl := hE.glob e20
            refine owes_value (v := vals 2) rfl (by rfl) (by rw [hvals]; simp [execOp, go_sem, p1]) ⟨fun _ => rfl, fun h => by omega⟩ (fun _ => rfl) fun _ _ _ h => h
          | 3, _, ho, hn, haf =>
            obtain rfl := Option.some.inj ho
            have p2 := (hv 2 _ 15 rfl (haf ⟨2, .guard⟩ (by simp) rfl) rfl).1 (by omega)
            rw [hvals] at p2
            have e20 : listed.getD 20 false = false := off_ofg hn fun q => (hcl 20 _ rfl q ⟨3, .data⟩ (by simp) rfl)
            obtain rfl := hE.glob e20
            refine owes_value (v := vals 3) rfl ((wanted_is rfl rfl p2).trans rfl) (by rw [hvals]; simp [execOp, go_sem, t0]) ⟨fun _ => rfl, fun h => by omega⟩ (fun _ => rfl) fun _ _ _ h => h
          | 4, _, ho, hn, haf =>
            obtain rfl := Option.some.inj ho
            have p2 := (hv 2 _ 15 rfl (haf ⟨2, .guard⟩ (by simp) rfl) rfl).1 (by omega)
            rw [hvals] at p2
            have e20 : listed.getD 20 false = false := off_ofg hn fun q => (hcl 5 _ rfl (hcl 6 _ rfl (hcl 7 _ rfl (hcl 9 _ rfl (hcl 10 _ rfl (hcl 11 _ rfl (hcl 20 _ rfl q ⟨11, .data⟩ (by simp) rfl) ⟨10, .data⟩ (by simp) rfl) ⟨9, .data⟩ (by simp) rfl) ⟨7, .data⟩ (by simp) rfl) ⟨6, .data⟩ (by simp) rfl) ⟨5, .data⟩ (by simp) rfl) ⟨4, .data⟩ (by simp) rfl)
            obtain rfl := hE.glob e20
            refine owes_value (v := vals 4) rfl ((wanted_is rfl rfl p2).trans rfl) (by rw [hvals]; simp [execOp, go_sem, t1, wb1]) ⟨fun _ => rfl, fun h => by omega⟩ (fun _ => rfl) fun _ _ _ h => h
          | 5, _, ho, hn, haf =>
            obtain rfl := Option.some.inj ho
            have p4 := (hv 4 _ 17 rfl (haf ⟨4, .data⟩ (by simp) rfl) rfl).1 (by omega)
            rw [hvals] at p4
            have p2 := (hv 2 _ 15 rfl (haf ⟨2, .guard⟩ (by simp) rfl) rfl).1 (by omega)
            rw [hvals] at p2
            have e20 : listed.getD 20 false = false := off_ofg hn fun q => (hcl 6 _ rfl (hcl 7 _ rfl (hcl 9 _ rfl (hcl 10 _ rfl (hcl 11 _ rfl (hcl 20 _ rfl q ⟨11, .data⟩ (by simp) rfl) ⟨10, .data⟩ (by simp) rfl) ⟨9, .data⟩ (by simp) rfl) ⟨7, .data⟩ (by simp) rfl) ⟨6, .data⟩ (by simp) rfl) ⟨5, .data⟩ (by simp) rfl)
            obtain rfl := hE.glob e20
            refine owes_value (v := vals 5) rfl ((wanted_is rfl rfl p2).trans rfl) (by rw [hvals]; simp [execOp, go_sem, p4]) ⟨fun _ => rfl, fun h => by omega⟩ (fun _ => rfl) fun _ _ _ h => h
          | 6, _, ho, hn, haf =>
            obtain rfl := Option.some.inj ho
            have p5 := (hv 5 _ 18 rfl (haf ⟨5, .data⟩ (by simp) rfl) rfl).1 (by omega)
            rw [hvals] at p5
            have p2 := (hv 2 _ 15 rfl (haf ⟨2, .guard⟩ (by simp) rfl) rfl).1 (by omega)
            rw [hvals] at p2
            have e20 : listed.getD 20 false = false := off_ofg hn fun q => (hcl 7 _ rfl (hcl 9 _ rfl (hcl 10 _ rfl (hcl 11 _ rfl (hcl 20 _ rfl q ⟨11, .data⟩ (by simp) rfl) ⟨10, .data⟩ (by simp) rfl) ⟨9, .data⟩ (by simp) rfl) ⟨7, .data⟩ (by simp) rfl) ⟨6, .data⟩ (by simp) rfl)
            obtain rfl := hE.glob e20
            refine owes_value (v := vals 6) rfl ((wanted_is rfl rfl p2).trans rfl) (by rw [hvals]; simp [execOp, go_sem, p5]) ⟨fun _ => rfl, fun h => by omega⟩ (fun _ => rfl) fun _ _ _ h => h
          | 7, _, ho, hn, haf =>
            obtain rfl := Option.some.inj ho
            have p6 := (hv 6 _ 19 rfl (haf ⟨6, .data⟩ (by simp) rfl) rfl).1 (by omega)
            rw [hvals] at p6
            have p2 := (hv 2 _ 15 rfl (haf ⟨2, .guard⟩ (by simp) rfl) rfl).1 (by omega)
            rw [hvals] at p2
            have e20 : listed.getD 20 false = false := off_ofg hn fun q => (hcl 9 _ rfl (hcl 10 _ rfl (hcl 11 _ rfl (hcl 20 _ rfl q ⟨11, .data⟩ (by simp) rfl) ⟨10, .data⟩ (by simp) rfl) ⟨9, .data⟩ (by simp) rfl) ⟨7, .data⟩ (by simp) rfl)
            obtain rfl := hE.glob e20
            refine owes_value (v := vals 7) rfl ((wanted_is rfl rfl p2).trans rfl) (by rw [hvals]; simp [execOp, go_sem, p6, w0]) ⟨fun _ => rfl, fun h => by omega⟩ (fun _ => rfl) fun _ _ _ h => h
          | 8, _, ho, hn, haf =>
            obtain rfl := Option.some.inj ho
            have p2 := (hv 2 _ 15 rfl (haf ⟨2, .guard⟩ (by simp) rfl) rfl).1 (by omega)
            rw [hvals] at p2
            have e20 : listed.getD 20 false = false := off_ofg hn fun q => (hcl 9 _ rfl (hcl 10 _ rfl (hcl 11 _ rfl (hcl 20 _ rfl q ⟨11, .data⟩ (by simp) rfl) ⟨10, .data⟩ (by simp) rfl) ⟨9, .data⟩ (by simp) rfl) ⟨8, .data⟩ (by simp) rfl)
            obtain rfl := hE.glob e20
            refine owes_value (v := vals 8) rfl ((wanted_is rfl rfl p2).trans rfl) (by rw [hvals]; simp [execOp, go_sem, t4]) ⟨fun _ => rfl, fun h => by omega⟩ (fun _ => rfl) fun _ _ _ h => h
          | 9, _, ho, hn, haf =>
            obtain rfl := Option.some.inj ho
            have p7 := (hv 7 _ 20 rfl (haf ⟨7, .data⟩ (by simp) rfl) rfl).1 (by omega)
            rw [hvals] at p7
            have p8 := (hv 8 _ 21 rfl (haf ⟨8, .data⟩ (by simp) rfl) rfl).1 (by omega)
            rw [hvals] at p8
            have p2 := (hv 2 _ 15 rfl (haf ⟨2, .guard⟩ (by simp) rfl) rfl).1 (by omega)
            rw [hvals] at p2
            have e20 : listed.getD 20 false = false := off_ofg hn fun q => (hcl 10 _ rfl (hcl 11 _ rfl (hcl 20 _ rfl q ⟨11, .data⟩ (by simp) rfl) ⟨10, .data⟩ (by simp) rfl) ⟨9, .data⟩ (by simp) rfl)
            obtain rfl := hE.glob e20
            refine owes_value (v := vals 9) rfl ((wanted_is rfl rfl p2).trans rfl) (by rw [hvals]; simp [execOp, go_sem, p7, p8, han]) ⟨fun _ => rfl, fun h => by omega⟩ (fun _ => rfl) fun _ _ _ h => h
          | 10, _, ho, hn, haf =>
            obtain rfl := Option.some.inj ho
            have p9 := (hv 9 _ 22 rfl (haf ⟨9, .data⟩ (by simp) rfl) rfl).1 (by omega)
            rw [hvals] at p9
            have p2 := (hv 2 _ 15 rfl (haf ⟨2, .guard⟩ (by simp) rfl) rfl).1 (by omega)
            rw [hvals] at p2
            have e20 : listed.getD 20 false = false := off_ofg hn fun q => (hcl 11 _ rfl (hcl 20 _ rfl q ⟨11, .data⟩ (by simp) rfl) ⟨10, .data⟩ (by simp) rfl)
            obtain rfl := hE.glob e20
            refine owes_value (v := vals 10) rfl ((wanted_is rfl rfl p2).trans rfl) (by rw [hvals]; simp [execOp, go_sem, p9]) ⟨fun _ => rfl, fun h => by omega⟩ (fun _ => rfl) fun _ _ _ h => h
          | 11, _, ho, hn, haf =>
            obtain rfl := Option.some.inj ho
            have p10 := (hv 10 _ 23 rfl (haf ⟨10, .data⟩ (by simp) rfl) rfl).1 (by omega)
            rw [hvals] at p10
            have p2 := (hv 2 _ 15 rfl (haf ⟨2, .guard⟩ (by simp) rfl) rfl).1 (by omega)
            rw [hvals] at p2
            have e20 : listed.getD 20 false = false := off_ofg hn fun q => (hcl 20 _ rfl q ⟨11, .data⟩ (by simp) rfl)
            obtain rfl := hE.glob e20
            refine owes_value (v := vals 11) rfl ((wanted_is rfl rfl p2).trans rfl) (by rw [hvals]; simp [execOp, go_sem, p10, wk]) ⟨fun _ => rfl, fun h => by omega⟩ (fun _ => rfl) fun _ _ _ h => h
          | 12, _, ho, hn, haf =>
            obtain rfl := Option.some.inj ho
            have p2 := (hv 2 _ 15 rfl (haf ⟨2, .guard⟩ (by simp) rfl) rfl).1 (by omega)
            rw [hvals] at p2
            have e20 : listed.getD 20 false = false := off_ofg hn fun q => (hcl 13 _ rfl (hcl 14 _ rfl (hcl 15 _ rfl (hcl 17 _ rfl (hcl 18 _ rfl (hcl 19 _ rfl (hcl 20 _ rfl q ⟨19, .data⟩ (by simp) rfl) ⟨18, .data⟩ (by simp) rfl) ⟨17, .data⟩ (by simp) rfl) ⟨15, .data⟩ (by simp) rfl) ⟨14, .data⟩ (by simp) rfl) ⟨13, .data⟩ (by simp) rfl) ⟨12, .data⟩ (by simp) rfl)
            obtain rfl := hE.glob e20
            refine owes_value (v := vals 12) rfl ((wanted_is rfl rfl p2).trans rfl) (by rw [hvals]; simp [execOp, go_sem, t1, wb1]) ⟨fun _ => rfl, fun h => by omega⟩ (fun _ => rfl) fun _ _ _ h => h
          | 13, _, ho, hn, haf =>
            obtain rfl := Option.some.inj ho
            have p12 := (hv 12 _ 25 rfl (haf ⟨12, .data⟩ (by simp) rfl) rfl).1 (by omega)
            rw [hvals] at p12
            have p2 := (hv 2 _ 15 rfl (haf ⟨2, .guard⟩ (by simp) rfl) rfl).1 (by omega)
            rw [hvals] at p2
            have e20 : listed.getD 20 false = false := off_ofg hn fun q => (hcl 14 _ rfl (hcl 15 _ rfl (hcl 17 _ rfl (hcl 18 _ rfl (hcl 19 _ rfl (hcl 20 _ rfl q ⟨19, .data⟩ (by simp) rfl) ⟨18, .data⟩ (by simp) rfl) ⟨17, .data⟩ (by simp) rfl) ⟨15, .data⟩ (by simp) rfl) ⟨14, .data⟩ (by simp) rfl) ⟨13, .data⟩ (by simp) rfl)
            obtain rfl := hE.glob e20
            refine owes_value (v := vals 13) rfl ((wanted_is rfl rfl p2).trans rfl) (by rw [hvals]; simp [execOp, go_sem, p12]) ⟨fun _ => rfl, fun h => by omega⟩ (fun _ => rfl) fun _ _ _ h => h
          | 14, _, ho, hn, haf =>
            obtain rfl := Option.some.inj ho
            have p13 := (hv 13 _ 26 rfl (haf ⟨13, .data⟩ (by simp) rfl) rfl).1 (by omega)
            rw [hvals] at p13
            have p2 := (hv 2 _ 15 rfl (haf ⟨2, .guard⟩ (by simp) rfl) rfl).1 (by omega)
            rw [hvals] at p2
            have e20 : listed.getD 20 false = false := off_ofg hn fun q => (hcl 15 _ rfl (hcl 17 _ rfl (hcl 18 _ rfl (hcl 19 _ rfl (hcl 20 _ rfl q ⟨19, .data⟩ (by simp) rfl) ⟨18, .data⟩ (by simp) rfl) ⟨17, .data⟩ (by simp) rfl) ⟨15, .data⟩ (by simp) rfl) ⟨14, .data⟩ (by simp) rfl)
            obtain rfl := hE.glob e20
            refine owes_value (v := vals 14) rfl ((wanted_is rfl rfl p2).trans rfl) (by rw [hvals]; simp [execOp, go_sem, p13]) ⟨fun _ => rfl, fun h => by omega⟩ (fun _ => rfl) fun _ _ _ h => h
          | 15, _, ho, hn, haf =>
            obtain rfl := Option.some.inj ho
            have p14 := (hv 14 _ 27 rfl (haf ⟨14, .data⟩ (by simp) rfl) rfl).1 (by omega)
            rw [hvals] at p14
            have p2 := (hv 2 _ 15 rfl (haf ⟨2, .guard⟩ (by simp) rfl) rfl).1 (by omega)
            rw [hvals] at p2
            have e20 : listed.getD 20 false = false := off_ofg hn fun q => (hcl 17 _ rfl (hcl 18 _ rfl (hcl 19 _ rfl (hcl 20 _ rfl q ⟨19, .data⟩ (by simp) rfl) ⟨18, .data⟩ (by simp) rfl) ⟨17, .data⟩ (by simp) rfl) ⟨15, .data⟩ (by simp) rfl)
            obtain rfl := hE.glob e20
            refine owes_value (v := vals 15) rfl ((wanted_is rfl rfl p2).trans rfl) (by rw [hvals]; simp [execOp, go_sem, p14, w0]) ⟨fun _ => rfl, fun h => by omega⟩ (fun _ => rfl) fun _ _ _ h => h
          | 16, _, ho, hn, haf =>
            obtain rfl := Option.some.inj ho
            have p2 := (hv 2 _ 15 rfl (haf ⟨2, .guard⟩ (by simp) rfl) rfl).1 (by omega)
            rw [hvals] at p2
            have e20 : listed.getD 20 false = false := off_ofg hn fun q => (hcl 17 _ rfl (hcl 18 _ rfl (hcl 19 _ rfl (hcl 20 _ rfl q ⟨19, .data⟩ (by simp) rfl) ⟨18, .data⟩ (by simp) rfl) ⟨17, .data⟩ (by simp) rfl) ⟨16, .data⟩ (by simp) rfl)
            obtain rfl := hE.glob e20
            refine owes_value (v := vals 16) rfl ((wanted_is rfl rfl p2).trans rfl) (by rw [hvals]; simp [execOp, go_sem, t4]) ⟨fun _ => rfl, fun h => by omega⟩ (fun _ => rfl) fun _ _ _ h => h
          | 17, _, ho, hn, haf =>
            obtain rfl := Option.some.inj ho
            have p15 := (hv 15 _ 28 rfl (haf ⟨15, .data⟩ (by simp) rfl) rfl).1 (by omega)
            rw [hvals] at p15
            have p16 := (hv 16 _ 29 rfl (haf ⟨16, .data⟩ (by simp) rfl) rfl).1 (by omega)
            rw [hvals] at p16
            have p2 := (hv 2 _ 15 rfl (haf ⟨2, .guard⟩ (by simp) rfl) rfl).1 (by omega)
            rw [hvals] at p2
            have e20 : listed.getD 20 false = false := off_ofg hn fun q => (hcl 18 _ rfl (hcl 19 _ rfl (hcl 20 _ rfl q ⟨19, .data⟩ (by simp) rfl) ⟨18, .data⟩ (by simp) rfl) ⟨17, .data⟩ (by simp) rfl)
            obtain rfl := hE.glob e20
            refine owes_value (v := vals 17) rfl ((wanted_is rfl rfl p2).trans rfl) (by rw [hvals]; simp [execOp, go_sem, p15, p16, han]) ⟨fun _ => rfl, fun h => by omega⟩ (fun _ => rfl) fun _ _ _ h => h
          | 18, _, ho, hn, haf =>
            obtain rfl := Option.some.inj ho
            have p17 := (hv 17 _ 30 rfl (haf ⟨17, .data⟩ (by simp) rfl) rfl).1 (by omega)
            rw [hvals] at p17
            have p2 := (hv 2 _ 15 rfl (haf ⟨2, .guard⟩ (by simp) rfl) rfl).1 (by omega)
            rw [hvals] at p2
            have e20 : listed.getD 20 false = false := off_ofg hn fun q => (hcl 19 _ rfl (hcl 20 _ rfl q ⟨19, .data⟩ (by simp) rfl) ⟨18, .data⟩ (by simp) rfl)
            obtain rfl := hE.glob e20
            refine owes_value (v := vals 18) rfl ((wanted_is rfl rfl p2).trans rfl) (by rw [hvals]; simp [execOp, go_sem, p17]) ⟨fun _ => rfl, fun h => by omega⟩ (fun _ => rfl) fun _ _ _ h => h
          | 19, _, ho, hn, haf =>
            obtain rfl := Option.some.inj ho
            have p18 := (hv 18 _ 31 rfl (haf ⟨18, .data⟩ (by simp) rfl) rfl).1 (by omega)
            rw [hvals] at p18
            have p2 := (hv 2 _ 15 rfl (haf ⟨2, .guard⟩ (by simp) rfl) rfl).1 (by omega)
            rw [hvals] at p2
            have e20 : listed.getD 20 false = false := off_ofg hn fun q => (hcl 20 _ rfl q ⟨19, .data⟩ (by simp) rfl)
            obtain rfl := hE.glob e20
            refine owes_value (v := vals 19) rfl ((wanted_is rfl rfl p2).trans rfl) (by rw [hvals]; simp [execOp, go_sem, p18, wv]) ⟨fun _ => rfl, fun h => by omega⟩ (fun _ => rfl) fun _ _ _ h => h
          | 20, _, ho, hn, haf =>
            obtain rfl := Option.some.inj ho
            have p3 := (hv 3 _ 16 rfl (haf ⟨3, .data⟩ (by simp) rfl) rfl).1 (by omega)
            rw [hvals] at p3
            have p11 := (hv 11 _ 24 rfl (haf ⟨11, .data⟩ (by simp) rfl) rfl).1 (by omega)
            rw [hvals] at p11
            have p19 := (hv 19 _ 32 rfl (haf ⟨19, .data⟩ (by simp) rfl) rfl).1 (by omega)
            rw [hvals] at p19
            have p2 := (hv 2 _ 15 rfl (haf ⟨2, .guard⟩ (by simp) rfl) rfl).1 (by omega)
            rw [hvals] at p2
            have e20 : listed.getD 20 false = false := off_ofg hn fun q => q
            obtain rfl := hE.glob e20
            refine owes_round rfl ((wanted_is rfl rfl p2).trans rfl) (by simp [execOp, go_sem, p3, p11, p19, hy]) hR fun e X' h => ?_
            have st : ∀ j u, listed.getD j false = true → RiP vals (fun v X => ∃ b : Bool, v = .bool b ∧ (b = true → J (pre ++ [(kk, kv)]) X ∧ KpS S wr.drew X) ∧ (b = false → Jx (pre ++ [(kk, kv)]) X)) listed j u wr.drew → RiP vals (fun v X => ∃ b : Bool, v = .bool b ∧ (b = true → J (pre ++ [(kk, kv)]) X ∧ KpS S wr.drew X) ∧ (b = false → Jx (pre ++ [(kk, kv)]) X)) (listed.setIfInBounds 20 true) j u X' := fun j u hj hp => ⟨hp.1, fun h => by
              rcases h with rfl | rfl
              · rw [e20] at hj; cases hj
              · rw [hcl 21 _ rfl hj ⟨20, .data⟩ (by simp) rfl] at e20; cases e20⟩
            have hg : (listed.setIfInBounds 20 true).getD 20 false = false → X' = wr.drew := fun h => by
              rw [getD_set, if_pos ⟨rfl, getD_lt hn⟩] at h; cases h
            rcases h with ⟨rfl, h1, h2⟩ | ⟨rfl, h1⟩
            · exact ⟨_, rfl, ⟨fun h => by omega, fun _ => ⟨true, rfl, fun _ => ⟨h1, h2⟩, fun e => by cases e⟩⟩, hg, st⟩
            · exact ⟨_, rfl, ⟨fun h => by omega, fun _ => ⟨false, rfl, fun e => (by cases e), fun _ => h1⟩⟩, hg, st⟩
          | 21, _, ho, hn, haf =>
            obtain rfl := Option.some.inj ho
            have p2 := (hv 2 _ 15 rfl (haf ⟨2, .data⟩ (by simp) rfl) rfl).1 (by omega)
            rw [hvals] at p2
            obtain ⟨b, p20, x1, x2⟩ := (hv 20 _ 33 rfl (haf ⟨20, .data⟩ (by simp) rfl) rfl).2 (.inl rfl)
            refine owes_value (v := .bool b) rfl (by rfl) (by simp [execOp, go_sem, p2, p20]) ⟨fun h => by omega, fun _ => ⟨b, rfl, x1, x2⟩⟩ (fun h => hE.glob (by rw [getD_set, if_neg (by omega)] at h; exact h)) fun _ _ _ h => h
        case hend =>
          intro a X hE
          obtain ⟨b, pb, x1, x2⟩ := (hE.vals 21 _ 34 rfl (by rfl) rfl).2 (.inr rfl)
          have r0 := hE.rest 0 (rest_of (by kernel_rfl))
          have r1 := hE.rest 1 (rest_of (by kernel_rfl))
          have r2 := hE.rest 2 (rest_of (by kernel_rfl))
          have r3 := hE.rest 3 (rest_of (by kernel_rfl))
          have r4 := hE.rest 4 (rest_of (by kernel_rfl))
          have r5 := hE.rest 5 (rest_of (by kernel_rfl))
          have r6 := hE.rest 6 (rest_of (by kernel_rfl))
          have r7 := hE.rest 7 (rest_of (by kernel_rfl))
          have r8 := hE.rest 8 (rest_of (by kernel_rfl))
          have r9 := hE.rest 9 (rest_of (by kernel_rfl))
          have r10 := hE.rest 10 (rest_of (by kernel_rfl))
          have r11 := hE.rest 11 (rest_of (by kernel_rfl))
          have r12 := hE.rest 12 (rest_of (by kernel_rfl))
          have r35 := hE.rest 35 (rest_of (by kernel_rfl))
          have r36 := hE.rest 36 (rest_of (by kernel_rfl))
          have r37 := hE.rest 37 (rest_of (by kernel_rfl))
          have r38 := hE.rest 38 (rest_of (by kernel_rfl))
          have r39 := hE.rest 39 (rest_of (by kernel_rfl))
          have r40 := hE.rest 40 (rest_of (by kernel_rfl))
          have r41 := hE.rest 41 (rest_of (by kernel_rfl))
          have r42 := hE.rest 42 (rest_of (by kernel_rfl))
          have r43 := hE.rest 43 (rest_of (by kernel_rfl))
          have r44 := hE.rest 44 (rest_of (by kernel_rfl))
          simp only [List.getElem?_toArray, List.getElem?_cons_zero, List.getElem?_cons_succ, Option.getD_some] at r0 r1 r2 r3 r4 r5 r6 r7 r8 r9 r10 r11 r12 r35 r36 r37 r38 r39 r40 r41 r42 r43 r44
          have hsz := hE.tsize
          have hdf := hE.defers
          obtain ⟨tm, df⟩ := a
          simp only at hsz hdf pb r0 r1 r2 r3 r4 r5 r6 r7 r8 r9 r10 r11 r12 r35 r36 r37 r38 r39 r40 r41 r42 r43 r44
          have htm := arr_out 45 tm hsz undef
          simp only [List.range, List.range.loop, List.map_cons, List.map_nil] at htm
          rw [pb, r0, r1, r2, r3, r4, r5, r6, r7, r8, r9, r10, r11, r12, r35, r36, r37, r38, r39, r40, r41, r42, r43, r44] at htm
          subst hdf
          rw [htm]
          clear htm hE pb hsz r0 r1 r2 r3 r4 r5 r6 r7 r8 r9 r10 r11 r12 r35 r36 r37 r38 r39 r40 r41 r42 r43 r44
          cases b with
          | false =>
            have HX := hidb (x2 rfl)
            clear x1 x2
            gi_wp2
            go_end0
            exact ⟨⟨_, rfl⟩, .inr ⟨_, HPre.out, HX.out⟩⟩
          | true =>
            obtain ⟨j1, k1⟩ := x1 rfl
            have hTX : TS tb g nn cap root f X := HTk.out X k1
            have d1 := HB1.out X k1
            have d0 := hTX.c0
            have dk := hTX.k han
            rw [HK.out] at dk
            have HN2 := hidb (HN.out X j1 k1)
            have HAX := hidb fun M => HAb.out (X.drewN M) kk (hTX.drewN M)
            clear x1 x2 j1 k1 hTX c0 c1 ck cv hR hy HN HTk HB1 HAb
            generalize T.above f kk 0 = at2 at *
            gi_wp2
            have eA : ∀ args w, (callFunc 59 args).run Try.prog w = .ok (.enter 59 args) w := enters_of Try.func59 (by kernel_rfl) rfl
            obtain ⟨vals2, hvals2⟩ : ∃ vals : Nat → Value, vals = fun i => match i with | 0 => .pointer (some ⟨tb, 0, none⟩) | 1 => .pointer (some ⟨tb, 0, none⟩) | 2 => .pointer (some ⟨tb, 0, none⟩) | 3 => .pointer (some ⟨tb, 0, none⟩) | 4 => .slice (some ⟨g, 0, none⟩) nn cap | 5 => .int .i64 at_ | 6 => .pointer (some ⟨g, at_ * 5, none⟩) | 7 => .pointer (some ⟨g, at_ * 5, none⟩) | 8 => sv kk | _ => .int .i64 at2 := ⟨_, rfl⟩
            refine wpIn_region_eachg (by kernel_rfl) 45 rfl (by kernel_rfl) (fun _ Y => ∃ M, Y = X.drewN M) (fun _ j v _ => v = vals2 j) ⟨1, rfl⟩ ?hop2 ?hend2
            case hop2 =>
              intro i o ho listed a Y hE hn haf
              have hi : i < 11 := (Array.getElem?_eq_some_iff.1 ho).1
              have hcl := hE.closed
              have hv := hE.vals
              obtain ⟨M, rfl⟩ := hE.glob
              have t1 : a.tmps[1]?.getD undef = .pointer (some ⟨b1, 0, none⟩) := hE.rest 1 (rest_of (by kernel_rfl))
              match i, hi, ho, hn, haf with
              | 0, _, ho, hn, haf =>
                obtain rfl := Option.some.inj ho
                exact owes_value (v := vals2 0) rfl (by rfl) (by rw [hvals2]; simp [execOp, go_sem, t1, d1]) rfl ⟨M, rfl⟩ fun _ _ _ h => h
              | 1, _, ho, hn, haf =>
                obtain rfl := Option.some.inj ho
                exact owes_value (v := vals2 1) rfl (by rfl) (by rw [hvals2]; simp [execOp, go_sem, t1, d1]) rfl ⟨M, rfl⟩ fun _ _ _ h => h
              | 2, _, ho, hn, haf =>
                obtain rfl := Option.some.inj ho
                have p1 := hv 1 _ 36 rfl (haf ⟨1, .data⟩ (by simp) rfl) rfl
                rw [hvals2] at p1
                exact owes_value (v := vals2 2) rfl (by rfl) (by rw [hvals2]; simp [execOp, go_sem, p1]) rfl ⟨M, rfl⟩ fun _ _ _ h => h
              | 3, _, ho, hn, haf =>
                obtain rfl := Option.some.inj ho
                have p2 := hv 2 _ 37 rfl (haf ⟨2, .data⟩ (by simp) rfl) rfl
                rw [hvals2] at p2
                exact owes_value (v := vals2 3) rfl (by rfl) (by rw [hvals2]; simp [execOp, go_sem, p2]) rfl ⟨M, rfl⟩ fun _ _ _ h => h
              | 4, _, ho, hn, haf =>
                obtain rfl := Option.some.inj ho
                have p3 := hv 3 _ 38 rfl (haf ⟨3, .data⟩ (by simp) rfl) rfl
                rw [hvals2] at p3
                exact owes_value (v := vals2 4) rfl (by rfl) (by rw [hvals2]; simp [execOp, go_sem, p3, d0]) rfl ⟨M, rfl⟩ fun _ _ _ h => h
              | 5, _, ho, hn, haf =>
                obtain rfl := Option.some.inj ho
                have e10 : listed.getD 10 false = false := off_ofg hn fun q => hcl 6 _ rfl (hcl 7 _ rfl (hcl 8 _ rfl (hcl 9 _ rfl (hcl 10 _ rfl q ⟨9, .data⟩ (by simp) rfl) ⟨8, .data⟩ (by simp) rfl) ⟨7, .data⟩ (by simp) rfl) ⟨6, .data⟩ (by simp) rfl) ⟨5, .data⟩ (by simp) rfl
                have t4 : a.tmps[4]?.getD undef = .int .i64 at_ := hE.old 10 _ 4 rfl e10 rfl
                exact owes_value (v := vals2 5) rfl (by rfl) (by rw [hvals2]; simp [execOp, go_sem, t4]) rfl ⟨M, rfl⟩ fun _ _ _ h => h
              | 6, _, ho, hn, haf =>
                obtain rfl := Option.some.inj ho
                have p4 := hv 4 _ 39 rfl (haf ⟨4, .data⟩ (by simp) rfl) rfl
                rw [hvals2] at p4
                have p5 := hv 5 _ 40 rfl (haf ⟨5, .data⟩ (by simp) rfl) rfl
                rw [hvals2] at p5
                exact owes_value (v := vals2 6) rfl (by rfl) (by rw [hvals2]; simp [execOp, go_sem, p4, p5, han]) rfl ⟨M, rfl⟩ fun _ _ _ h => h
              | 7, _, ho, hn, haf =>
                obtain rfl := Option.some.inj ho
                have p6 := hv 6 _ 41 rfl (haf ⟨6, .data⟩ (by simp) rfl) rfl
                rw [hvals2] at p6
                exact owes_value (v := vals2 7) rfl (by rfl) (by rw [hvals2]; simp [execOp, go_sem, p6]) rfl ⟨M, rfl⟩ fun _ _ _ h => h
              | 8, _, ho, hn, haf =>
                obtain rfl := Option.some.inj ho
                have p7 := hv 7 _ 42 rfl (haf ⟨7, .data⟩ (by simp) rfl) rfl
                rw [hvals2] at p7
                exact owes_value (v := vals2 8) rfl (by rfl) (by rw [hvals2]; simp [execOp, go_sem, p7, dk]) rfl ⟨M, rfl⟩ fun _ _ _ h => h
              | 9, _, ho, hn, haf =>
                obtain rfl := Option.some.inj ho
                have p0 := hv 0 _ 35 rfl (haf ⟨0, .data⟩ (by simp) rfl) rfl
                rw [hvals2] at p0
                have p8 := hv 8 _ 43 rfl (haf ⟨8, .data⟩ (by simp) rfl) rfl
                rw [hvals2] at p8
                exact owes_call rfl (by rfl) (by simp [execOp, go_sem, p0, p8, eA]) (callsIn_wide.2 (HAX.out M)) fun e Y' ⟨h1, m, h2⟩ => ⟨_, h1, by rw [hvals2]; rfl, ⟨M + m, by rw [h2, World.drewN_drewN]⟩, fun _ _ _ h => h⟩
              | 10, _, ho, hn, haf =>
                obtain rfl := Option.some.inj ho
                have p9 := hv 9 _ 44 rfl (haf ⟨9, .data⟩ (by simp) rfl) rfl
                rw [hvals2] at p9
                exact owes_value (v := vals2 10) rfl (by rfl) (by rw [hvals2]; simp [execOp, go_sem, p9]) rfl ⟨M, rfl⟩ fun _ _ _ h => h
            case hend2 =>
              intro a Y hE
              obtain ⟨M, rfl⟩ := hE.glob
              have pb := hE.vals 10 _ 4 rfl (by rfl) rfl
              rw [hvals2] at pb
              simp only at pb
              have r0 := hE.rest 0 (rest_of (by kernel_rfl))
              have r1 := hE.rest 1 (rest_of (by kernel_rfl))
              have r2 := hE.rest 2 (rest_of (by kernel_rfl))
              have r3 := hE.rest 3 (rest_of (by kernel_rfl))
              have r5 := hE.rest 5 (rest_of (by kernel_rfl))
              have r6 := hE.rest 6 (rest_of (by kernel_rfl))
              have r7 := hE.rest 7 (rest_of (by kernel_rfl))
              have r8 := hE.rest 8 (rest_of (by kernel_rfl))
              have r9 := hE.rest 9 (rest_of (by kernel_rfl))
              have r10 := hE.rest 10 (rest_of (by kernel_rfl))
              have r11 := hE.rest 11 (rest_of (by kernel_rfl))
              have r12 := hE.rest 12 (rest_of (by kernel_rfl))
              have r13 := hE.rest 13 (rest_of (by kernel_rfl))
              have r14 := hE.rest 14 (rest_of (by kernel_rfl))
              have r15 := hE.rest 15 (rest_of (by kernel_rfl))
              have r16 := hE.rest 16 (rest_of (by kernel_rfl))
              have r17 := hE.rest 17 (rest_of (by kernel_rfl))
              have r18 := hE.rest 18 (rest_of (by kernel_rfl))
              have r19 := hE.rest 19 (rest_of (by kernel_rfl))
              have r20 := hE.rest 20 (rest_of (by kernel_rfl))
              have r21 := hE.rest 21 (rest_of (by kernel_rfl))
              have r22 := hE.rest 22 (rest_of (by kernel_rfl))
              have r23 := hE.rest 23 (rest_of (by kernel_rfl))
              have r24 := hE.rest 24 (rest_of (by kernel_rfl))
              have r25 := hE.rest 25 (rest_of (by kernel_rfl))
              have r26 := hE.rest 26 (rest_of (by kernel_rfl))
              have r27 := hE.rest 27 (rest_of (by kernel_rfl))
              have r28 := hE.rest 28 (rest_of (by kernel_rfl))
              have r29 := hE.rest 29 (rest_of (by kernel_rfl))
              have r30 := hE.rest 30 (rest_of (by kernel_rfl))
              have r31 := hE.rest 31 (rest_of (by kernel_rfl))
              have r32 := hE.rest 32 (rest_of (by kernel_rfl))
              have r33 := hE.rest 33 (rest_of (by kernel_rfl))
              have r34 := hE.rest 34 (rest_of (by kernel_rfl))
              simp only [List.getElem?_toArray, List.getElem?_cons_zero, List.getElem?_cons_succ, Option.getD_some] at r0 r1 r2 r3 r5 r6 r7 r8 r9 r10 r11 r12 r13 r14 r15 r16 r17 r18 r19 r20 r21 r22 r23 r24 r25 r26 r27 r28 r29 r30 r31 r32 r33 r34
              have hsz := hE.tsize
              have hdf := hE.defers
              obtain ⟨tm2, df⟩ := a
              simp only at hsz hdf pb r0 r1 r2 r3 r5 r6 r7 r8 r9 r10 r11 r12 r13 r14 r15 r16 r17 r18 r19 r20 r21 r22 r23 r24 r25 r26 r27 r28 r29 r30 r31 r32 r33 r34
              have htm := arr_out 45 tm2 hsz undef
              simp only [List.range, List.range.loop, List.map_cons, List.map_nil] at htm
              rw [pb, r0, r1, r2, r3, r5, r6, r7, r8, r9, r10, r11, r12, r13, r14, r15, r16, r17, r18, r19, r20, r21, r22, r23, r24, r25, r26, r27, r28, r29, r30, r31, r32, r33, r34] at htm
              subst hdf
              rw [htm]
              clear htm hE pb hsz r0 r1 r2 r3 r5 r6 r7 r8 r9 r10 r11 r12 r13 r14 r15 r16 r17 r18 r19 r20 r21 r22 r23 r24 r25 r26 r27 r28 r29 r30 r31 r32 r33 r34
              gi_wp2
              gi_roundg k'
              case measure => exact HL.out
              case rel => exact ⟨at2, rfl, hidb (HN2.out _)⟩
end Go.Proofs.Ytcjakgogdbfagaa
