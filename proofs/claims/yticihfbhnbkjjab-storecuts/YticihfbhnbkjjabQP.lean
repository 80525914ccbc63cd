/- Layer 11: the tree's calls, told by its pairs; newTree. -/
import Derived.Test.YticihfbhnbkjjabQO
namespace Go.Proofs.Yticihfbhnbkjjab
open Go.RowKit
theorem TreeAt.keep {tb g : Nat} {L : Kvs} {w w' : World} (h : TreeAt tb g L w) (e1 : w'.heap[tb]? = w.heap[tb]?) (e2 : w'.heap[g]? = w.heap[g]?) : TreeAt tb g L w' := by
  obtain ⟨n, cap, root, f, T, h1, h2⟩ := h
  exact ⟨n, cap, root, f, T, h1.keep e1 e2, h2⟩
theorem TreeAt.lts {tb g : Nat} {L : Kvs} {w : World} (h : TreeAt tb g L w) : tb < w.heap.size ∧ g < w.heap.size ∧ tb ≠ g := by
  obtain ⟨n, cap, root, f, T, h1, h2⟩ := h
  exact ⟨h1.ltb, h1.ltg, h1.ne⟩
theorem TreeAt.kt {tb g : Nat} {L : Kvs} {w w' : World} {S : Nat → Prop} (h : TreeAt tb g L w) (k : Kt S w w') (s1 : ¬ S tb) (s2 : ¬ S g) : TreeAt tb g L w' := h.keep (k.block _ h.lts.1 s1) (k.block _ h.lts.2.1 s2)
theorem TreeAt.below {tb g : Nat} {L : Kvs} {w w' : World} (h : TreeAt tb g L w) (k : Below w.heap.size w w') : TreeAt tb g L w' := h.keep (k.block _ h.lts.1) (k.block _ h.lts.2.1)
theorem TreeAt.srt {tb g : Nat} {L : Kvs} {w : World} (h : TreeAt tb g L w) : SrtL L := by
  obtain ⟨n, cap, root, f, T, h1, h2⟩ := h
  exact h2.srt
theorem TreeAt.drewN {tb g : Nat} {L : Kvs} {w : World} (h : TreeAt tb g L w) (M : Nat) : TreeAt tb g L (w.drewN M) := h.keep rfl rfl
theorem has_t (tb g : Nat) (L : Kvs) (w : World) (key : Bt) (h : TreeAt tb g L w) : Calls Try.prog 35 #[.pointer (some ⟨tb, 0, none⟩), sv key] w fun e w' => e = .returned (.bool (getL L key).isSome) ∧ ∃ m, w' = w.drewN m := by
  obtain ⟨n, cap, root, f, T, h1, h2⟩ := h
  refine (has_any tb g n cap root f T w key h1 h2.lk h2.top h2.hm).mono fun e w' ⟨x, y⟩ => ⟨?_, y⟩
  rw [x]
  rcases h2.find key with ⟨a, b⟩ | ⟨a, _, _, _, b⟩
  · rw [a, b]; rfl
  · rw [b]; simp [a]
theorem get_t (tb g : Nat) (L : Kvs) (w : World) (key : Bt) (h : TreeAt tb g L w) : Calls Try.prog 36 #[.pointer (some ⟨tb, 0, none⟩), sv key] w fun e w' => e = .returned (.tuple #[sv ((getL L key).getD []), .bool (getL L key).isSome]) ∧ ∃ m, w' = w.drewN m := by
  obtain ⟨n, cap, root, f, T, h1, h2⟩ := h
  refine (get_any tb g n cap root f T w key h1 h2.lk h2.top h2.hm (h2.findlt key)).mono fun e w' ⟨x, y⟩ => ⟨?_, y⟩
  rw [x]
  rcases h2.find key with ⟨a, b⟩ | ⟨a, _, _, _, b⟩
  · rw [a, b, h2.z]; rfl
  · rw [b]; simp [a]
theorem next_t (tb g : Nat) (L : Kvs) (w : World) (key : Bt) (h : TreeAt tb g L w) : Calls Try.prog 37 #[.pointer (some ⟨tb, 0, none⟩), sv key] w fun e w' => e = .returned (.tuple #[sv ((nextL L key).getD []), .bool (nextL L key).isSome]) ∧ ∃ m, w' = w.drewN m := by
  obtain ⟨n, cap, root, f, T, h1, h2⟩ := h
  have hlt : T.above f key 0 < n := by
    rcases h2.above key with ⟨a, _⟩ | ⟨_, a, _⟩
    · rw [a]; exact h2.pos
    · exact a
  refine (next_any tb g n cap root f T w key h1 h2.lk h2.top h2.hm hlt).mono fun e w' ⟨x, y⟩ => ⟨?_, y⟩
  rw [x]
  rcases h2.above key with ⟨a, b⟩ | ⟨a, _, b⟩
  · rw [a, b, h2.z]; rfl
  · rw [b]; simp [a]
theorem count_t (tb g : Nat) (L : Kvs) (w : World) (h : TreeAt tb g L w) : Calls Try.prog 27 #[.pointer (some ⟨tb, 0, none⟩)] w fun e w' => e = .returned (.int .i64 (L.length : Nat)) ∧ w' = w := by
  obtain ⟨n, cap, root, f, T, h1, h2⟩ := h
  have hl : L.length + 1 = n := by rw [← h2.len, ← h2.kv, kvs, List.length_map]
  refine (count_any tb g n cap root f w h1 h2.pos).mono fun e w' ⟨x, y⟩ => ⟨?_, y⟩
  rw [x, ← hl, Nat.add_sub_cancel]
/-- An empty tree. -/
theorem tree_nil {w : World} {tb g cap : Nat} (h1 : w.heap[tb]? = some (.cells #[.slice (some ⟨g, 0, none⟩) 1 cap, .int .i64 0] 91 (0, 0))) (h2 : w.ownsRow 0 95 5 (.slice (some ⟨g, 0, none⟩) 1 cap) 1 (flat (fun _ => Nd.zero) 1)) (hne : tb ≠ g) : TreeAt tb g [] w := by
  obtain ⟨nb, hc⟩ := NB.of h2
  exact ⟨1, cap, 0, fun _ => Nd.zero, .e, ⟨h1, nb, hne, hc, by decide⟩, ⟨trivial, rfl, List.nodup_nil, fun p => by simp [Tr.pl]; omega, rfl, rfl, rfl, List.Pairwise.nil⟩⟩
theorem made_nodes (W : World) : ∃ W2, (Instr.makeSlice 89 (.int .i64 1) (.int .i64 1)).run Try.prog W = .ok (.slice (some ⟨W.heap.size, 0, none⟩) 1 1) W2 ∧ W2.ownsRow 0 95 5 (.slice (some ⟨W.heap.size, 0, none⟩) 1 1) 1 (flat (fun _ => Nd.zero) 1) ∧ Below W.heap.size W W2 ∧ W.heap.size < W2.heap.size := by
  obtain ⟨i0, hi, hz0, hz1, hz2⟩ := info_parts (show (Try.prog.info? 95).map (fun i => (i.zero, i.size, i.bytes)) = some (some (.agg #[.string ⟨#[]⟩, .string ⟨#[]⟩, .int .i64 0, .int .i64 0, .int .i64 0]), 5, 56) by kernel_rfl)
  obtain ⟨W2, h1, h2, h3⟩ := run_make_full (w := W) W.heap.size 89 95 i0 _ 5 Try.underlying89 hi hz0 hz1 .i64 .i64 1 (by rw [hz2]; decide) (by decide) (Nat.le_refl _)
  refine ⟨W2, h1, ?_, (Below.refl _ W).grown h3 (Nat.le_refl _) (fun k hk => by cases hk), ?_⟩
  · refine ⟨rfl, ?_⟩
    rcases h2.2 with ⟨h, _⟩ | ⟨g, cap, cur, hv, _, r1, r2, r3, r4, r5⟩
    · cases h
    · exact .inr ⟨g, cap, cur, hv, Nat.zero_le _, r1, r2, r3, r4, r5.trans (by kernel_rfl)⟩
  · rcases h2.2 with ⟨h, _⟩ | ⟨g, cap, cur, hv, _, hg, _⟩
    · cases h
    · injection hv with e1
      injection e1 with e1
      injection e1 with e1
      rw [e1]
      exact heap_ltb hg
set_option maxRecDepth 100000 in
theorem newTree_any (w : World) : Calls Try.prog 42 #[] w fun e w' => ∃ tb, e = .returned (.pointer (some ⟨tb, 0, none⟩)) ∧ Hid (∃ g, TreeAt tb g [] w' ∧ w.heap.size ≤ tb ∧ w.heap.size ≤ g ∧ Below w.heap.size w w') := by
  obtain ⟨W2, h1, h2, h3, h4⟩ := made_nodes w
  have HE : Hid (∃ g, TreeAt W2.heap.size g [] (W2.alloc (.cells #[.slice (some ⟨w.heap.size, 0, none⟩) 1 1, .int .i64 0] 91)) ∧ w.heap.size ≤ W2.heap.size ∧ w.heap.size ≤ g ∧ Below w.heap.size w (W2.alloc (.cells #[.slice (some ⟨w.heap.size, 0, none⟩) 1 1, .int .i64 0] 91))) := hidb ⟨w.heap.size, tree_nil (heap_alloc_new W2 _) (h2.alloc _) (by omega), by omega, Nat.le_refl _, h3.alloc (by omega) _⟩
  clear h2 h3 h4
  go_enter Try.func42, Try.ntmps42
  go_wp2_with fail
  go_ret
  exact ⟨_, rfl, HE⟩
end Go.Proofs.Yticihfbhnbkjjab
