/- Layer 17: the law MessageBytes. -/
import Derived.Test.YtmaecpmdikdclaaNE
import Derived.Test.YtmaecpmdikdclaaNG
import Derived.Test.YtmaecpmdikdclaaMT
import Derived.Test.YtmaecpmdikdclaaMS
import Derived.Test.YtmaecpmdikdclaaWR
import Derived.Test.YtmaecpmdikdclaaWS
import Derived.Test.YtmaecpmdikdclaaLBk17
namespace Go.Proofs.Ytmaecpmdikdclaa
open Go.RowKit
/-- What bytes tell: a message and a number. -/
def md17 (bs : List UInt8) : Msg × Int := if readOk gMsg Msg.ok bs = true then ((gMsg (bs, 0)).1, 0) else (⟨0, 0, 0, 0, 0, 0, 0, []⟩, 21)
def GetUM (r : Msg) (n : Nat) (er : Int) (w : World) (e : Ending) (w' : World) : Prop := Below w.heap.size w w' ∧ ∃ va vc, e = .returned (.tuple #[msgV r.kd r.fr r.tt r.vw r.op r.cm r.nm (.slice va n vc), .int .i64 er]) ∧ EsAt w'.cell? va r.log
theorem getUM {bs : List UInt8} {w : World} {e : Ending} {w' : World} (h : GetMsgEnd bs w e w') : GetUM (md17 bs).1 (md17 bs).1.log.length (md17 bs).2 w e w' := by
  obtain ⟨hb, ⟨h, rfl⟩ | ⟨h, va, vc, rfl, hL⟩⟩ := h
  · have e : md17 bs = (⟨0, 0, 0, 0, 0, 0, 0, []⟩, 21) := by unfold md17; rw [h]; rfl
    rw [e]
    exact ⟨hb, none, 0, rfl, .inl rfl⟩
  · have e : md17 bs = ((gMsg (bs, 0)).1, 0) := by unfold md17; rw [h]; rfl
    rw [e]
    obtain ⟨_, _, ev, hE⟩ := hL.form
    injection ev with e1 e2 e3
    subst e1 e3
    exact ⟨hb, _, _, rfl, hE⟩
theorem getUMD {bs : List UInt8} {w : World} {e : Ending} {w' : World} (h : GetMsgEndD bs w e w') : GetUM (md17 bs).1 (md17 bs).1.log.length (md17 bs).2 w e w' := by
  obtain ⟨hb, ⟨h, rfl⟩ | ⟨h, va, vc, rfl, hE⟩⟩ := h
  · have e : md17 bs = (⟨0, 0, 0, 0, 0, 0, 0, []⟩, 21) := by unfold md17; rw [h]; rfl
    rw [e]
    exact ⟨hb, none, 0, rfl, .inl rfl⟩
  · have e : md17 bs = ((gMsg (bs, 0)).1, 0) := by unfold md17; rw [h]; rfl
    rw [e]
    exact ⟨hb, _, _, rfl, hE⟩
def PutUM (B : List UInt8) (n : Nat) (er : Int) (w : World) (e : Ending) (w' : World) : Prop := Below w.heap.size w w' ∧ ∃ ao cap, e = .returned (.tuple #[.slice ao n cap, .int .i64 er]) ∧ Bs w' ao B
theorem putUM {ok : Bool} {b : List UInt8} {w : World} {e : Ending} {w' : World} (h : PutEnd17 ok b w e w') : PutUM (pB ok b) (pB ok b).length (pE ok b) w e w' := by
  obtain ⟨hb, ao, cap, he, hB, _⟩ := h
  exact ⟨hb, ao, cap, he, hB⟩
theorem md17_fair (bs : List UInt8) : FairL (md17 bs).1.log := by
  unfold md17
  by_cases h : readOk gMsg Msg.ok bs = true
  · rw [if_pos h]
    have hok : (gMsg (bs, 0)).1.ok = true := by
      unfold readOk at h
      simp only [Bool.and_eq_true] at h
      exact h.2.2
    obtain ⟨_, _, _, _, e1, _⟩ := Msg.facts hok
    obtain ⟨h1, h2⟩ := logOk.facts e1
    exact ⟨fun x hx => Nat.le_trans (Ent.facts (h2 x hx)).2.2 (by decide), Nat.le_trans h1 (by decide)⟩
  · rw [if_neg h]
    exact ⟨fun x hx => absurd hx (List.not_mem_nil), by decide⟩
set_option maxRecDepth 100000 in
set_option maxHeartbeats 4000000 in
theorem mbytes17_any (m : Msg) (a : Option Addr) (n c : Nat) (ao : Option Addr) (len cap : Nat) (bs : List UInt8) (w : World) (hn : m.log.length = n) (hN : EsAt w.cell? a m.log) (hf : FairL m.log) (hl : bs.length = len) (hm : len ≤ 140737488351232) (hB : Bs w ao bs) :
    Calls Try.prog 3 #[msgV m.kd m.fr m.tt m.vw m.op m.cm m.nm (.slice a n c), .slice ao len cap] w fun e w' => e = .returned (.bool true) ∧ Below w.heap.size w w' := by
  have hnr : n ≤ 9000000000000 := by rw [← hn]; exact Nat.le_trans hf.2 (by decide)
  have mkM := mkM_any m a n c w hn hN hf
  have ptM : ∀ W va vc, EsAt W.cell? va m.log → Calls Try.prog 11 #[msgV m.kd m.fr m.tt m.vw m.op m.cm m.nm (.slice va n vc)] W (PutUM (pB m.ok m.b) (pB m.ok m.b).length (pE m.ok m.b) W) := fun W va vc hE => (put17_any m va n vc W hn hE hf.1).mono fun e w' h => putUM h
  have ptD : ∀ W, Below w.heap.size w W → Calls Try.prog 12 #[msgV m.kd m.fr m.tt m.vw m.op m.cm m.nm (.slice a n c)] W (PutUM (pB m.ok m.b) (pB m.ok m.b).length (pE m.ok m.b) W) := fun W hW => (rput17_any m a n c W hn (hN.keep (below_keep hW)) hf.1).mono fun e w' h => putUM h
  have rtM : ∀ W va vc, EsAt W.cell? va m.log → Calls Try.prog 15 #[msgV m.kd m.fr m.tt m.vw m.op m.cm m.nm (.slice va n vc)] W fun e w' => e = .returned (.bool m.ok) ∧ Below W.heap.size W w' := fun W va vc hE => right17_any m va n vc W hn hE hf.1
  have rtD : ∀ W, Below w.heap.size w W → Calls Try.prog 16 #[msgV m.kd m.fr m.tt m.vw m.op m.cm m.nm (.slice a n c)] W fun e w' => e = .returned (.bool m.ok) ∧ Below W.heap.size W w' := fun W hW => rright17_any m a n c W hn (hN.keep (below_keep hW)) hf.1
  have smM : ∀ W ua uc va vc, EsAt W.cell? ua m.log → EsAt W.cell? va m.log → Calls Try.prog 18 #[msgV m.kd m.fr m.tt m.vw m.op m.cm m.nm (.slice ua n uc), msgV m.kd m.fr m.tt m.vw m.op m.cm m.nm (.slice va n vc)] W fun e w' => e = .returned (.bool true) ∧ Below W.heap.size W w' := fun W ua uc va vc h1 h2 => by
    have := sameMsg_any m m ua n uc va n vc W hn hn h1 h2 hnr hnr
    rw [decide_eq_true rfl] at this
    exact this
  have gtP : ∀ W g cc, Bs W (some ⟨g, 0, none⟩) bs → Calls Try.prog 13 #[.slice (some ⟨g, 0, none⟩) len cc] W (GetUM (md17 bs).1 (md17 bs).1.log.length (md17 bs).2 W) := fun W g cc hb => (get17_any _ len cc bs W hl (by omega) hb).mono fun e w' h => getUM h
  have gtD : ∀ W, Below w.heap.size w W → Calls Try.prog 14 #[.slice ao len cap] W (GetUM (md17 bs).1 (md17 bs).1.log.length (md17 bs).2 W) := fun W hW => (rget17_any ao len cap bs W hl hm (hB.keep (below_keep hW))).mono fun e w' h => getUMD h
  have hfr := md17_fair bs
  generalize (md17 bs).2 = er at *
  obtain ⟨r, hr⟩ : ∃ z, z = (md17 bs).1 := ⟨_, rfl⟩
  rw [← hr] at gtP gtD hfr
  clear hr
  have mkZ : ∀ W za zc, EsAt W.cell? za r.log → Calls Try.prog 10 #[msgV r.kd r.fr r.tt r.vw r.op r.cm r.nm (.slice za r.log.length zc)] W fun e w' => (∃ va vc, e = .returned (msgV r.kd r.fr r.tt r.vw r.op r.cm r.nm (.slice va r.log.length vc)) ∧ EsAt w'.cell? va r.log) ∧ Below W.heap.size W w' := fun W za zc hE => mkM_any r za _ zc W rfl hE hfr W (Below.refl _ _)
  have smZ : ∀ W ua uc va vc, EsAt W.cell? ua r.log → EsAt W.cell? va r.log → Calls Try.prog 18 #[msgV r.kd r.fr r.tt r.vw r.op r.cm r.nm (.slice ua r.log.length uc), msgV r.kd r.fr r.tt r.vw r.op r.cm r.nm (.slice va r.log.length vc)] W fun e w' => e = .returned (.bool true) ∧ Below W.heap.size W w' := fun W ua uc va vc h1 h2 => by
    have := sameMsg_any r r ua _ uc va _ vc W rfl rfl h1 h2 (Nat.le_trans hfr.2 (by decide)) (Nat.le_trans hfr.2 (by decide))
    rw [decide_eq_true rfl] at this
    exact this
  have hLe : ∀ W, Below w.heap.size w W → _ := fun W hW => lent_any ao len cap bs W hl hm (hB.keep (below_keep hW))
  have hSt : ∀ W base g cc, OwnB W base (.slice (some ⟨g, 0, none⟩) (len + 2) cc) (bs ++ [77, 78]) → Below w.heap.size w W → _ := fun W base g cc hO hW => stays_any g len cc base bs ao cap W hl hm hO (hB.keep (below_keep hW))
  have hKn := knows17_any
  have bsL : ∀ W base g cc, OwnB W base (.slice (some ⟨g, 0, none⟩) (len + 2) cc) (bs ++ [77, 78]) → Bs W (some ⟨g, 0, none⟩) bs := fun W base g cc hO => by
    obtain ⟨_, _, hv, _, _, hb, _, _⟩ := Own.bs hO
    injection hv with e1 e2 e3
    subst e1
    have := bs_take hb bs.length
    rwa [List.take_left'  rfl] at this
  obtain ⟨BM, hBM⟩ : ∃ z, z = pB m.ok m.b := ⟨_, rfl⟩
  rw [← hBM] at ptM ptD
  obtain ⟨NM, hNM⟩ : ∃ z, z = BM.length := ⟨_, rfl⟩
  rw [← hNM] at ptM ptD
  have HNM := hid hNM
  clear hBM hNM
  generalize pE m.ok m.b = eM at *
  generalize m.ok = okm at *
  clear hn hN hf hl hB hnr hfr hm
  obtain ⟨kd, fr, tt, vw, op, cm, nm, LM⟩ := m
  obtain ⟨rkd, rfr, rtt, rvw, rop, rcm, rnm, LR⟩ := r
  simp only at *
  generalize LR.length = rn at *
  obtain ⟨W0, hW0⟩ : ∃ W, W = w.alloc (.cells #[.int .i64 kd, .int .i64 fr, .int .i64 tt, .int .i64 vw, .int .i64 op, .int .i64 cm, .int .i64 nm, .slice a n c] 24) := ⟨_, rfl⟩
  have hb0 : Below w.heap.size w W0 := by rw [hW0]; exact (Below.refl _ _).alloc (Nat.le_refl _) _
  have bx0 : W0.heap[w.heap.size]? = some (.cells #[.int .i64 kd, .int .i64 fr, .int .i64 tt, .int .i64 vw, .int .i64 op, .int .i64 cm, .int .i64 nm, .slice a n c] 24 (0, 0)) := by rw [hW0]; exact heap_alloc_new w _
  have bxM : ∀ W, Below W0.heap.size W0 W → ((W.cell? ⟨w.heap.size, 0, none⟩ = some (.int .i64 kd) ∧ W.cell? ⟨w.heap.size, 1, none⟩ = some (.int .i64 fr) ∧ W.cell? ⟨w.heap.size, 2, none⟩ = some (.int .i64 tt) ∧ W.cell? ⟨w.heap.size, 3, none⟩ = some (.int .i64 vw) ∧ W.cell? ⟨w.heap.size, 4, none⟩ = some (.int .i64 op) ∧ W.cell? ⟨w.heap.size, 5, none⟩ = some (.int .i64 cm) ∧ W.cell? ⟨w.heap.size, 6, none⟩ = some (.int .i64 nm) ∧ W.cell? ⟨w.heap.size, 7, none⟩ = some (.slice a n c)) ∧ w.heap.size < W.heap.size) := fun W h => by
    have e1 := (h.block _ (lt_of_block bx0)).trans bx0
    exact ⟨⟨(by rw [Lib.cell_of_heap e1]; rfl), (by rw [Lib.cell_of_heap e1]; rfl), (by rw [Lib.cell_of_heap e1]; rfl), (by rw [Lib.cell_of_heap e1]; rfl), (by rw [Lib.cell_of_heap e1]; rfl), (by rw [Lib.cell_of_heap e1]; rfl), (by rw [Lib.cell_of_heap e1]; rfl), (by rw [Lib.cell_of_heap e1]; rfl)⟩, lt_of_block e1⟩
  have lift : ∀ W, Below W0.heap.size W0 W → Below w.heap.size w W := fun W h => hb0.trans (h.mono hb0.size)
  have hLe0 := hLe W0 hb0
  clear hLe bx0
  go_enter Try.func3, Try.ntmps3
  go_wp2_with fail
  rw [← hW0]
  clear hW0
  refine hLe0.mono ?_
  clear hLe0
  rintro e w1 ⟨g, cc, rfl, hO1, hb1⟩
  obtain ⟨⟨x0, x1, x2, x3, x4, x5, x6, x7⟩, xl⟩ := bxM w1 hb1
  have hMk := mkM w1 (lift _ hb1)
  go_wp2_with (go_at_call 10; refine hMk.mono ?_; clear hMk; rintro e w2 ⟨⟨va, vc, rfl, hE2⟩, hb2'⟩)
  clear x0 x1 x2 x3 x4 x5 x6 x7 xl
  obtain ⟨XB, hXB⟩ : ∃ z, z = w2.heap.size := ⟨_, rfl⟩
  obtain ⟨V3, hV3⟩ : ∃ W, W = w2.alloc (.cells #[.int .i64 kd, .int .i64 fr, .int .i64 tt, .int .i64 vw, .int .i64 op, .int .i64 cm, .int .i64 nm, .slice va n vc] 29) := ⟨_, rfl⟩
  have a23 : Below w2.heap.size w2 V3 := by rw [hV3]; exact (Below.refl _ _).alloc (Nat.le_refl _) _
  have bX3 : V3.heap[XB]? = some (.cells #[.int .i64 kd, .int .i64 fr, .int .i64 tt, .int .i64 vw, .int .i64 op, .int .i64 cm, .int .i64 nm, .slice va n vc] 29 (0, 0)) := by rw [hV3, hXB]; exact heap_alloc_new w2 _
  have c13 : Below w1.heap.size w1 V3 := hb2'.trans (a23.mono hb2'.size)
  have hE3 := hE2.keep (below_keep a23)
  have hPt := ptM V3 va vc hE3
  rw [← hV3, ← hXB]
  clear hV3 hXB a23 hE2 hb2' ptM
  refine hPt.mono ?_
  clear hPt
  rintro e w4 ⟨hb4', ao1, c1, rfl, hB4⟩
  have c14 : Below w1.heap.size w1 w4 := c13.trans (hb4'.mono c13.size)
  have hb4 := hb1.trans (c14.mono hb1.size)
  obtain ⟨⟨x0, x1, x2, x3, x4, x5, x6, x7⟩, xl⟩ := bxM w4 hb4
  have hPd := ptD w4 (lift _ hb4)
  clear ptD
  go_wp2_with (go_at_call 12; refine hPd.mono ?_; clear hPd; rintro e w5 ⟨hb5', ao2, c2, rfl, hB5⟩)
  clear x0 x1 x2 x3 x4 x5 x6 x7 xl
  have c15 : Below w1.heap.size w1 w5 := c14.trans (hb5'.mono c14.size)
  have hO5 : OwnB w5 W0.heap.size (.slice (some ⟨g, 0, none⟩) (len + 2) cc) (bs ++ [77, 78]) := Own.below hO1 c15
  have hGt := gtP w5 g cc (bsL w5 _ g cc hO5)
  clear gtP bsL
  refine hGt.mono ?_
  clear hGt
  rintro e w6 ⟨hb6', ya, yc, rfl, hE6⟩
  obtain ⟨YB, hYB⟩ : ∃ z, z = w6.heap.size := ⟨_, rfl⟩
  obtain ⟨V7, hV7⟩ : ∃ W, W = w6.alloc (.cells #[.int .i64 rkd, .int .i64 rfr, .int .i64 rtt, .int .i64 rvw, .int .i64 rop, .int .i64 rcm, .int .i64 rnm, .slice ya rn yc] 29) := ⟨_, rfl⟩
  have a67 : Below w6.heap.size w6 V7 := by rw [hV7]; exact (Below.refl _ _).alloc (Nat.le_refl _) _
  have bY7 : V7.heap[YB]? = some (.cells #[.int .i64 rkd, .int .i64 rfr, .int .i64 rtt, .int .i64 rvw, .int .i64 rop, .int .i64 rcm, .int .i64 rnm, .slice ya rn yc] 29 (0, 0)) := by rw [hV7, hYB]; exact heap_alloc_new w6 _
  have c57 : Below w5.heap.size w5 V7 := hb6'.trans (a67.mono hb6'.size)
  have c17 : Below w1.heap.size w1 V7 := c15.trans (c57.mono c15.size)
  have hE7 := hE6.keep (below_keep a67)
  have hGd := gtD V7 (lift _ (hb1.trans (c17.mono hb1.size)))
  go_wp2_with fail
  rw [← hV7, ← hYB]
  clear hV7 hYB a67 hE6 gtD
  refine hGd.mono ?_
  clear hGd
  rintro e w8 ⟨hb8', za, zc, rfl, hE8⟩
  go_upto_region 7 with fail
  obtain ⟨ZB, hZB⟩ : ∃ z, z = w8.heap.size := ⟨_, rfl⟩
  obtain ⟨V9, hV9⟩ : ∃ W, W = w8.alloc (.cells #[.int .i64 rkd, .int .i64 rfr, .int .i64 rtt, .int .i64 rvw, .int .i64 rop, .int .i64 rcm, .int .i64 rnm, .slice za rn zc] 24) := ⟨_, rfl⟩
  have a89 : Below w8.heap.size w8 V9 := by rw [hV9]; exact (Below.refl _ _).alloc (Nat.le_refl _) _
  have bZ9 : V9.heap[ZB]? = some (.cells #[.int .i64 rkd, .int .i64 rfr, .int .i64 rtt, .int .i64 rvw, .int .i64 rop, .int .i64 rcm, .int .i64 rnm, .slice za rn zc] 24 (0, 0)) := by rw [hV9, hZB]; exact heap_alloc_new w8 _
  have c79 : Below V7.heap.size V7 V9 := hb8'.trans (a89.mono hb8'.size)
  have c59 : Below w5.heap.size w5 V9 := c57.trans (c79.mono c57.size)
  have c49 : Below w4.heap.size w4 V9 := hb5'.trans (c59.mono hb5'.size)
  have c39 : Below V3.heap.size V3 V9 := hb4'.trans (c49.mono hb4'.size)
  have c19 : Below w1.heap.size w1 V9 := c13.trans (c39.mono c13.size)
  have c09 : Below W0.heap.size W0 V9 := hb1.trans (c19.mono hb1.size)
  have hE9 := hE8.keep (below_keep a89)
  rw [← hV9, ← hZB]
  clear hV9 hZB hE8
  have bY9 := (c79.block _ (lt_of_block bY7)).trans bY7
  have bX9 := (c39.block _ (lt_of_block bX3)).trans bX3
  have hO9 : OwnB V9 W0.heap.size (.slice (some ⟨g, 0, none⟩) (len + 2) cc) (bs ++ [77, 78]) := Own.below hO1 c19
  have hEy9 := hE7.keep (below_keep c79)
  have hEm9 := hE3.keep (below_keep c39)
  have hB49 := hB4.keep (below_keep c49)
  have hB59 := hB5.keep (below_keep c59)
  have liftV : ∀ W, Below V9.heap.size V9 W → Below w.heap.size w W := fun W h => lift _ (c09.trans (h.mono c09.size))
  have hEm : ∀ W, Below V9.heap.size V9 W → EsAt W.cell? va LM := fun W h => hEm9.keep (below_keep h)
  have hEy : ∀ W, Below V9.heap.size V9 W → EsAt W.cell? ya LR := fun W h => hEy9.keep (below_keep h)
  have hEz : ∀ W, Below V9.heap.size V9 W → EsAt W.cell? za LR := fun W h => hE9.keep (below_keep h)
  have hOw : ∀ W, Below V9.heap.size V9 W → OwnB W W0.heap.size (.slice (some ⟨g, 0, none⟩) (len + 2) cc) (bs ++ [77, 78]) := fun W h => Own.below hO9 h
  have hSk : ∀ W, Below V9.heap.size V9 W → ((W.cell? ⟨w.heap.size, 0, none⟩ = some (.int .i64 kd) ∧ W.cell? ⟨w.heap.size, 1, none⟩ = some (.int .i64 fr) ∧ W.cell? ⟨w.heap.size, 2, none⟩ = some (.int .i64 tt) ∧ W.cell? ⟨w.heap.size, 3, none⟩ = some (.int .i64 vw) ∧ W.cell? ⟨w.heap.size, 4, none⟩ = some (.int .i64 op) ∧ W.cell? ⟨w.heap.size, 5, none⟩ = some (.int .i64 cm) ∧ W.cell? ⟨w.heap.size, 6, none⟩ = some (.int .i64 nm) ∧ W.cell? ⟨w.heap.size, 7, none⟩ = some (.slice a n c)) ∧ w.heap.size < W.heap.size) ∧ ((W.cell? ⟨XB, 0, none⟩ = some (.int .i64 kd) ∧ W.cell? ⟨XB, 1, none⟩ = some (.int .i64 fr) ∧ W.cell? ⟨XB, 2, none⟩ = some (.int .i64 tt) ∧ W.cell? ⟨XB, 3, none⟩ = some (.int .i64 vw) ∧ W.cell? ⟨XB, 4, none⟩ = some (.int .i64 op) ∧ W.cell? ⟨XB, 5, none⟩ = some (.int .i64 cm) ∧ W.cell? ⟨XB, 6, none⟩ = some (.int .i64 nm) ∧ W.cell? ⟨XB, 7, none⟩ = some (.slice va n vc)) ∧ XB < W.heap.size) ∧ ((W.cell? ⟨YB, 0, none⟩ = some (.int .i64 rkd) ∧ W.cell? ⟨YB, 1, none⟩ = some (.int .i64 rfr) ∧ W.cell? ⟨YB, 2, none⟩ = some (.int .i64 rtt) ∧ W.cell? ⟨YB, 3, none⟩ = some (.int .i64 rvw) ∧ W.cell? ⟨YB, 4, none⟩ = some (.int .i64 rop) ∧ W.cell? ⟨YB, 5, none⟩ = some (.int .i64 rcm) ∧ W.cell? ⟨YB, 6, none⟩ = some (.int .i64 rnm) ∧ W.cell? ⟨YB, 7, none⟩ = some (.slice ya rn yc)) ∧ YB < W.heap.size) ∧ ((W.cell? ⟨ZB, 0, none⟩ = some (.int .i64 rkd) ∧ W.cell? ⟨ZB, 1, none⟩ = some (.int .i64 rfr) ∧ W.cell? ⟨ZB, 2, none⟩ = some (.int .i64 rtt) ∧ W.cell? ⟨ZB, 3, none⟩ = some (.int .i64 rvw) ∧ W.cell? ⟨ZB, 4, none⟩ = some (.int .i64 rop) ∧ W.cell? ⟨ZB, 5, none⟩ = some (.int .i64 rcm) ∧ W.cell? ⟨ZB, 6, none⟩ = some (.int .i64 rnm) ∧ W.cell? ⟨ZB, 7, none⟩ = some (.slice za rn zc)) ∧ ZB < W.heap.size) ∧ (convert 25 9 (.slice ao1 NM c1)).run Try.prog W = .ok (.string ⟨BM.toArray⟩) W ∧ (convert 25 9 (.slice ao2 NM c2)).run Try.prog W = .ok (.string ⟨BM.toArray⟩) W := fun W h => by
    have e1 := (h.block _ (lt_of_block bX9)).trans bX9
    have e2 := (h.block _ (lt_of_block bY9)).trans bY9
    have e3 := (h.block _ (lt_of_block bZ9)).trans bZ9
    refine ⟨bxM W (c09.trans (h.mono c09.size)), ⟨⟨(by rw [Lib.cell_of_heap e1]; rfl), (by rw [Lib.cell_of_heap e1]; rfl), (by rw [Lib.cell_of_heap e1]; rfl), (by rw [Lib.cell_of_heap e1]; rfl), (by rw [Lib.cell_of_heap e1]; rfl), (by rw [Lib.cell_of_heap e1]; rfl), (by rw [Lib.cell_of_heap e1]; rfl), (by rw [Lib.cell_of_heap e1]; rfl)⟩, lt_of_block e1⟩, ⟨⟨(by rw [Lib.cell_of_heap e2]; rfl), (by rw [Lib.cell_of_heap e2]; rfl), (by rw [Lib.cell_of_heap e2]; rfl), (by rw [Lib.cell_of_heap e2]; rfl), (by rw [Lib.cell_of_heap e2]; rfl), (by rw [Lib.cell_of_heap e2]; rfl), (by rw [Lib.cell_of_heap e2]; rfl), (by rw [Lib.cell_of_heap e2]; rfl)⟩, lt_of_block e2⟩, ⟨⟨(by rw [Lib.cell_of_heap e3]; rfl), (by rw [Lib.cell_of_heap e3]; rfl), (by rw [Lib.cell_of_heap e3]; rfl), (by rw [Lib.cell_of_heap e3]; rfl), (by rw [Lib.cell_of_heap e3]; rfl), (by rw [Lib.cell_of_heap e3]; rfl), (by rw [Lib.cell_of_heap e3]; rfl), (by rw [Lib.cell_of_heap e3]; rfl)⟩, lt_of_block e3⟩, ?_, ?_⟩
    · have := run_str (hB49.keep (below_keep h)) c1
      rw [← HNM.out] at this
      exact this
    · have := run_str (hB59.keep (below_keep h)) c2
      rw [← HNM.out] at this
      exact this
  have h0 : Below V9.heap.size V9 V9 := Below.refl _ _
  have h1 : Below V9.heap.size V9 V9.drew := (Below.refl _ _).drew
  clear bX9 bY9 bZ9 hO9 hEy9 hEm9 hE9 hB49 hB59 bxM lift c79 c59 c49 c39 c19 c09 bX3 bY7 hO5 hO1 hE3 hE7 hB4 hB5 a89 hb8' hb6' hb5' hb4' hb4 c57 c17 c15 c14 c13 hb1 hb0 HNM
  go_region_held3 (fun W => ((W.cell? ⟨w.heap.size, 0, none⟩ = some (.int .i64 kd) ∧ W.cell? ⟨w.heap.size, 1, none⟩ = some (.int .i64 fr) ∧ W.cell? ⟨w.heap.size, 2, none⟩ = some (.int .i64 tt) ∧ W.cell? ⟨w.heap.size, 3, none⟩ = some (.int .i64 vw) ∧ W.cell? ⟨w.heap.size, 4, none⟩ = some (.int .i64 op) ∧ W.cell? ⟨w.heap.size, 5, none⟩ = some (.int .i64 cm) ∧ W.cell? ⟨w.heap.size, 6, none⟩ = some (.int .i64 nm) ∧ W.cell? ⟨w.heap.size, 7, none⟩ = some (.slice a n c)) ∧ w.heap.size < W.heap.size) ∧ ((W.cell? ⟨XB, 0, none⟩ = some (.int .i64 kd) ∧ W.cell? ⟨XB, 1, none⟩ = some (.int .i64 fr) ∧ W.cell? ⟨XB, 2, none⟩ = some (.int .i64 tt) ∧ W.cell? ⟨XB, 3, none⟩ = some (.int .i64 vw) ∧ W.cell? ⟨XB, 4, none⟩ = some (.int .i64 op) ∧ W.cell? ⟨XB, 5, none⟩ = some (.int .i64 cm) ∧ W.cell? ⟨XB, 6, none⟩ = some (.int .i64 nm) ∧ W.cell? ⟨XB, 7, none⟩ = some (.slice va n vc)) ∧ XB < W.heap.size) ∧ ((W.cell? ⟨YB, 0, none⟩ = some (.int .i64 rkd) ∧ W.cell? ⟨YB, 1, none⟩ = some (.int .i64 rfr) ∧ W.cell? ⟨YB, 2, none⟩ = some (.int .i64 rtt) ∧ W.cell? ⟨YB, 3, none⟩ = some (.int .i64 rvw) ∧ W.cell? ⟨YB, 4, none⟩ = some (.int .i64 rop) ∧ W.cell? ⟨YB, 5, none⟩ = some (.int .i64 rcm) ∧ W.cell? ⟨YB, 6, none⟩ = some (.int .i64 rnm) ∧ W.cell? ⟨YB, 7, none⟩ = some (.slice ya rn yc)) ∧ YB < W.heap.size) ∧ ((W.cell? ⟨ZB, 0, none⟩ = some (.int .i64 rkd) ∧ W.cell? ⟨ZB, 1, none⟩ = some (.int .i64 rfr) ∧ W.cell? ⟨ZB, 2, none⟩ = some (.int .i64 rtt) ∧ W.cell? ⟨ZB, 3, none⟩ = some (.int .i64 rvw) ∧ W.cell? ⟨ZB, 4, none⟩ = some (.int .i64 rop) ∧ W.cell? ⟨ZB, 5, none⟩ = some (.int .i64 rcm) ∧ W.cell? ⟨ZB, 6, none⟩ = some (.int .i64 rnm) ∧ W.cell? ⟨ZB, 7, none⟩ = some (.slice za rn zc)) ∧ ZB < W.heap.size) ∧ (convert 25 9 (.slice ao1 NM c1)).run Try.prog W = .ok (.string ⟨BM.toArray⟩) W ∧ (convert 25 9 (.slice ao2 NM c2)).run Try.prog W = .ok (.string ⟨BM.toArray⟩) W) (first | exact hSk _ h21 | exact hSk _ h20 | exact hSk _ h19 | exact hSk _ h18 | exact hSk _ h17 | exact hSk _ h16 | exact hSk _ h15 | exact hSk _ h14 | exact hSk _ h1 | exact hSk _ h0 | go_keep) (first
    | (go_at_call 15; refine (rtM _ va vc (hEm _ h1)).mono ?_; clear rtM; rintro e w14 ⟨rfl, h14'⟩; have h14 := h1.trans (h14'.mono h1.size); clear h14')
    | (go_at_call 16; refine (rtD _ (liftV _ h14)).mono ?_; clear rtD; rintro e w15 ⟨rfl, h15'⟩; have h15 := h14.trans (h15'.mono h14.size); clear h15')
    | (go_at_call 17; refine (num17_any _ _).mono ?_; rintro e wq ⟨rfl, hwq⟩; subst hwq)
    | (go_at_call 10; first
        | (refine (mkZ _ za zc (hEz _ h15)).mono ?_; clear mkZ; rintro e w16 ⟨⟨ua, uc, rfl, hU⟩, h16'⟩; have h16 := h15.trans (h16'.mono h15.size); clear h16')
        | (refine (mkM _ (liftV _ h17)).mono ?_; clear mkM; rintro e w18 ⟨⟨ta, tc, rfl, hT⟩, h18'⟩; have h18 := h17.trans (h18'.mono h17.size); clear h18'))
    | (go_at_call 18; first
        | (refine (smZ _ ya yc ua uc (hEy _ h16) hU).mono ?_; clear smZ hU; rintro e w17 ⟨rfl, h17'⟩; have h17 := h16.trans (h17'.mono h16.size); clear h17')
        | (refine (smM _ va vc ta tc (hEm _ h18) hT).mono ?_; clear smM hT; rintro e w19 ⟨rfl, h19'⟩; have h19 := h18.trans (h19'.mono h18.size); clear h19'))
    | (go_at_call 19; refine (hSt _ _ g cc (hOw _ h19) (liftV _ h19)).mono ?_; clear hSt; rintro e w20 ⟨rfl, h20'⟩; have h20 := h19.trans (h20'.mono h19.size); clear h20')
    | (go_at_call 20; refine (hKn _).mono ?_; clear hKn; rintro e w21 ⟨rfl, h21'⟩; have h21 := h20.trans (h21'.mono h20.size); clear h21'))
  all_goals
    go_wp2_with fail
    go_ret
    exact ⟨rfl, liftV _ h21⟩
end Go.Proofs.Ytmaecpmdikdclaa
