/- Layer 18: a part that is new. -/
import Derived.Test.YtaonchdpnllhpaaV8n
import Derived.Test.YtaonchdpnllhpaaV8e
namespace Go.Proofs.Ytaonchdpnllhpaa
open Go.RowKit
theorem new3_18 (w : World) (o1 o2 : Obj) (cs : Array Value) (e : TypeId) : (((w.alloc o1).alloc o2).alloc (.cells cs e)).drew.heap[w.heap.size + 1 + 1]? = some (.cells cs e (0, 0)) := by
  have := heap_alloc_new ((w.alloc o1).alloc o2) (.cells cs e)
  rw [World.size_alloc, World.size_alloc] at this
  exact this
theorem new2_18 (w : World) (o1 o3 : Obj) (cs : Array Value) (e : TypeId) : (((w.alloc o1).alloc (.cells cs e)).alloc o3).drew.heap[w.heap.size + 1]? = some (.cells cs e (0, 0)) := by
  have := heap_alloc_new (w.alloc o1) (.cells cs e)
  refine (Below.heap_alloc _ _ _ (by simp)).trans ?_
  simpa using this
theorem three18 (w : World) (o1 o2 o3 : Obj) : Below w.heap.size w (((w.alloc o1).alloc o2).alloc o3).drew := ((((Below.refl _ w).alloc (Nat.le_refl _) _).alloc (by simp) _).alloc (by simp; omega) _).drew
def NPart (w : World) (x : Pt) (lv sv dv : Value) (n pb mb : Nat) (W : World) : Prop := PtAt pb x lv sv dv (.slice (some ⟨mb, 0, none⟩) n n) W ∧ W.ownsRow w.heap.size 3 1 (.slice (some ⟨mb, 0, none⟩) n n) n (nsV (List.replicate n 0)) ∧ w.heap.size ≤ pb ∧ Below w.heap.size w W
theorem npart_of {w W : World} {x : Pt} {lv sv dv : Value} {n pb mb : Nat} {M : Array Value} (h1 : PtAt pb x lv sv dv (.slice (some ⟨mb, 0, none⟩) n n) W) (h2 : W.heap[mb]? = some (.cells M 3 (0, 0))) (hM : M.toList = nsV (List.replicate n 0)) (hn : n ≤ 7) (hp : w.heap.size ≤ pb) (hm : w.heap.size ≤ mb) (hb : Below w.heap.size w W) : NPart w x lv sv dv n pb mb W := by
  have hl : M.size = n := by rw [← Array.length_toList, hM]; simp
  refine ⟨h1, ⟨by simp, .inr ⟨mb, n, M, rfl, hm, h2, Nat.le_refl _, by unfold maxLen; omega, by omega, ?_⟩⟩, hp, hb⟩
  rw [hM]
  exact List.take_of_length_le (by simp)
theorem NPart.below {w W W' : World} {x : Pt} {lv sv dv : Value} {n pb mb : Nat} (h : NPart w x lv sv dv n pb mb W) (hb : Below W.heap.size W W') : NPart w x lv sv dv n pb mb W' :=
  ⟨h.1.below hb, row_below2 h.2.1 hb, h.2.2.1, h.2.2.2.trans (hb.mono h.2.2.2.size)⟩
theorem NPart.votes {w W : World} {x : Pt} {lv s0 d0 : Value} {n pb mb : Nat} (h : NPart w x lv s0 d0 n pb mb W) (s1 d1 : Value) : NPart w x lv s1 d1 n pb mb (((W.setCell ⟨pb, 4, none⟩ s1).setCell ⟨pb, 5, none⟩ d1).setCell ⟨pb, 6, none⟩ (.bool x.sent)) := by
  have h1 := h.1
  unfold PtAt at h1
  have ne : (Value.slice (some ⟨mb, 0, none⟩) n n).ownBlock ≠ some pb := row_apart18 h.2.1 h1 (by decide)
  refine ⟨?_, row_keep18 (row_keep18 (row_keep18 h.2.1 ne _) ne _) ne _, h.2.2.1, ?_⟩
  · exact heap_setCell_same _ _ _ _ _ _ (heap_setCell_same _ _ _ _ _ _ (heap_setCell_same _ _ _ _ _ _ h1))
  · exact ((h.2.2.2.setCell h.2.2.1 _).setCell h.2.2.1 _).setCell h.2.2.1 _
set_option maxRecDepth 100000 in
set_option maxHeartbeats 40000000 in
theorem newPart_any18 (vw la cm : Int) (lv : Value) (id n : Nat) (hn : n ≤ 7) (hi : id < n) (w : World) : Calls Try.prog 17 #[.int .i64 id, .int .i64 n, .agg #[.int .i64 vw, .int .i64 la, .int .i64 cm, lv]] w fun e w' => ∃ pb mb sv dv, e = .returned (.pointer (some ⟨pb, 0, none⟩)) ∧ NPart w ⟨vw, la, cm, false, id, n, la == vw, false, 0⟩ lv sv dv n pb mb w' := by
  have hmi := make18i n hn
  obtain ⟨M, hM0⟩ : ∃ M, M = madeCells #[Value.int .i64 0] n := ⟨_, rfl⟩
  rw [← hM0] at hmi
  have hM : Hid (M.toList = nsV (List.replicate n 0)) := hid (by
    rw [hM0]
    apply List.ext_getElem
    · simp [madeCells]
    · intro j h1 h2
      simp [madeCells, Nat.mod_one])
  clear hM0
  go_enter Try.func17, Try.ntmps17
  go_wp2_with fail
  go_cut [7] (fun p wx => ∃ pb mb, p = .pointer (some ⟨pb, 0, none⟩) ∧ Hid (NPart w ⟨vw, la, cm, false, id, n, la == vw, false, 0⟩ lv (.slice none 0 0) (.slice none 0 0) n pb mb wx))
  case first =>
    go_region_law fail
    all_goals
      go_wp2_with fail
      go_meet
      first
        | exact ⟨_, _, rfl, hid (npart_of (new3_18 _ _ _ _ _) (new2_18 _ _ _ _ _) hM.out hn (by omega) (by omega) (three18 _ _ _ _))⟩
        | exact ⟨_, _, rfl, hid (npart_of (new2_18 _ _ _ _ _) (new3_18 _ _ _ _ _) hM.out hn (by omega) (by omega) (three18 _ _ _ _))⟩
  case rest =>
    obtain ⟨pb, mb, rfl, hC⟩ := hcut
    have hP := hC.out.1
    have hV := hid (newVotes_any18 hn hi wc hP)
    go_wp2_with (first
      | (go_at_call 30; refine hV.out.mono ?_; clear hV; rintro e w2 ⟨sa, sc, da, dc, rfl, b2⟩; have hP2 := hP.below b2; clear hP; have hC2 := hid (hC.out.below b2); clear hC b2; obtain ⟨⟨-, -, -, -, c4, c5, c6⟩, ⟨-, -, -, -, -, -⟩, hl, hf⟩ := hP2.rd; have f4 := hf 4; have f5 := hf 5; have f6 := hf 6)
      | fail)
    go_ret
    exact ⟨pb, mb, _, _, rfl, hC2.out.votes _ _⟩
end Go.Proofs.Ytaonchdpnllhpaa
