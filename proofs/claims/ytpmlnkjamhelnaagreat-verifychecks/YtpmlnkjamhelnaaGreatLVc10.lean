/- The law VerifyChecks. -/
import Derived.Test.YtpmlnkjamhelnaaGreatZN
import Derived.Test.YtpmlnkjamhelnaaGreatZO
import Derived.Test.YtpmlnkjamhelnaaGreatWS
namespace Go.Proofs.YtpmlnkjamhelnaaGreat
open Go.RowKit
theorem che_facts {bs:List UInt8}(h:chE bs=0):(getS bs).right=true∧(allS (getS bs)).1=0∧∃ o,ordS (getS bs).funcs.length (gF (getS bs))=some o:=by
 unfold chE at h
 by_cases hg:getE4 bs=0
 ·rw [if_pos hg] at h;exact ofe_facts h
 ·rw [if_neg hg] at h;exact absurd h hg
set_option maxRecDepth 100000 in
set_option maxHeartbeats 4000000 in
theorem checks10_any (a:Option Addr)(m c:Nat)(bs:List UInt8)(w:World)(hl:bs.length=m)(hm:m≤140737488351232)(hB:Bs w a bs) :
  Calls Tryz.prog 3 #[.slice a m c] w fun e w'=>e=.returned (.bool true)∧Below w.heap.size w w':=by
 have HKn:Hid (∀ W,Below w.heap.size w W→Calls Tryz.prog 11 #[] W fun e W1=>e=.returned (.bool true)∧Hid (Below w.heap.size w W1)):=hid9 fun W hb=>(knows10_any W).mono fun e W1 ⟨h1,h2⟩=>⟨h1,hid9 (hb.trans (h2.mono hb.size))⟩
 have HSt:Hid (∀ W g lc,OwnB W w.heap.size (.slice (some ⟨g,0,none⟩) (m+2) lc) (bs++[77,78])∧Below w.heap.size w W→Calls Tryz.prog 10 #[.slice (some ⟨g,0,none⟩) m lc,.slice a m c] W fun e W1=>e=.returned (.bool true)∧Hid (Below w.heap.size w W1)):=hid9 fun W g lc ⟨h1,h2⟩=>(stays_any g m lc _ bs a c W hl hm h1 (hB.keep (below_keep h2))).mono fun e W1 ⟨h3,h4⟩=>⟨h3,hid9 (h2.trans (h4.mono h2.size))⟩
 have HLe:Hid (Calls Tryz.prog 5 #[.slice a m c] w fun e W1=>∃ la lc,e=.returned (.slice (some ⟨la,0,none⟩) m lc)∧Hid (OwnB W1 w.heap.size (.slice (some ⟨la,0,none⟩) (m+2) lc) (bs++[77,78])∧Below w.heap.size w W1)):=hid9 ((lent_any a m c bs w hl hm hB).mono fun e W1 ⟨la,lc,h1,h2,h3⟩=>⟨la,lc,h1,hid9 ⟨h2,h3⟩⟩)
 have hbl:∀ {W:World} {g lc:Nat},OwnB W w.heap.size (.slice (some ⟨g,0,none⟩) (m+2) lc) (bs++[77,78])→Bs W (some ⟨g,0,none⟩) bs:=fun {W g lc} h2=>by
  obtain ⟨a,c2,e1,_,_,h4,_⟩:=Own.bs h2
  injection e1 with e1 _ _
  subst e1
  rcases h4 with h | ⟨b,off,e,h⟩
  ·simp at h
  ·refine .inr ⟨b,off,e,fun j hj=>?_⟩
   have:=h j (by rw [List.length_append];omega)
   rw [this,List.getElem_append_left hj]
 obtain ⟨er,her⟩:∃ er,er=chE bs:=⟨_,rfl⟩
 obtain ⟨s,hs⟩:∃ s,s=getS bs:=⟨_,rfl⟩
 have hf:er=0→s.right=true∧(allS s).1=0∧∃ o,ordS s.funcs.length (gF s)=some o:=fun h=>by rw [hs];rw [her] at h;exact che_facts h
 have hsf:s.fits:=by rw [hs];exact gets_fits bs
 have HC:Hid (∀ la lc W,OwnB W w.heap.size (.slice (some ⟨la,0,none⟩) (m+2) lc) (bs++[77,78])∧Below w.heap.size w W→Calls Tryz.prog 6 #[.slice (some ⟨la,0,none⟩) m lc] W fun e W1=>∃ p0 l0 p1 l1 p3 l3 p4 l4 p5 l5 p6 l6,e=.returned (.tuple #[.agg #[.slice p0 (rS er s).consts.length l0,.slice p1 (rS er s).funcs.length l1,.int .i64 (rG er s),.slice p3 (rS er s).funcs.length l3,.slice p4 (rS er s).funcs.length l4,.slice p5 (rS er s).funcs.length l5,.slice p6 (rS er s).funcs.length l6],.int .i64 er]) ∧
   Hid (Calls Tryz.prog 7 #[.slice a m c] (W1.alloc (.cells #[.slice p0 (rS er s).consts.length l0,.slice p1 (rS er s).funcs.length l1,.int .i64 (rG er s),.slice p3 (rS er s).funcs.length l3,.slice p4 (rS er s).funcs.length l4,.slice p5 (rS er s).funcs.length l5,.slice p6 (rS er s).funcs.length l6] 30)) fun e W2=>∃ q0 m0 q1 m1 q3 m3 q4 m4 q5 m5 q6 m6,e=.returned (.tuple #[.agg #[.slice q0 (rS er s).consts.length m0,.slice q1 (rS er s).funcs.length m1,.int .i64 (rG er s),.slice q3 (rS er s).funcs.length m3,.slice q4 (rS er s).funcs.length m4,.slice q5 (rS er s).funcs.length m5,.slice q6 (rS er s).funcs.length m6],.int .i64 er]) ∧
    Cel7 (W2.alloc (.cells #[.slice q0 (rS er s).consts.length m0,.slice q1 (rS er s).funcs.length m1,.int .i64 (rG er s),.slice q3 (rS er s).funcs.length m3,.slice q4 (rS er s).funcs.length m4,.slice q5 (rS er s).funcs.length m5,.slice q6 (rS er s).funcs.length m6] 34)) W1.heap.size (.slice p0 (rS er s).consts.length l0) (.slice p1 (rS er s).funcs.length l1) (.int .i64 (rG er s)) (.slice p3 (rS er s).funcs.length l3) (.slice p4 (rS er s).funcs.length l4) (.slice p5 (rS er s).funcs.length l5) (.slice p6 (rS er s).funcs.length l6) ∧
    Hid (Calls Tryz.prog 8 #[.agg #[.slice p0 (rS er s).consts.length l0,.slice p1 (rS er s).funcs.length l1,.int .i64 (rG er s),.slice p3 (rS er s).funcs.length l3,.slice p4 (rS er s).funcs.length l4,.slice p5 (rS er s).funcs.length l5,.slice p6 (rS er s).funcs.length l6],.agg #[.slice q0 (rS er s).consts.length m0,.slice q1 (rS er s).funcs.length m1,.int .i64 (rG er s),.slice q3 (rS er s).funcs.length m3,.slice q4 (rS er s).funcs.length m4,.slice q5 (rS er s).funcs.length m5,.slice q6 (rS er s).funcs.length m6]] (W2.alloc (.cells #[.slice q0 (rS er s).consts.length m0,.slice q1 (rS er s).funcs.length m1,.int .i64 (rG er s),.slice q3 (rS er s).funcs.length m3,.slice q4 (rS er s).funcs.length m4,.slice q5 (rS er s).funcs.length m5,.slice q6 (rS er s).funcs.length m6] 34)) fun e W3=>e=.returned (.bool true)∧Hid (OwnB W3 w.heap.size (.slice (some ⟨la,0,none⟩) (m+2) lc) (bs++[77,78])∧Below w.heap.size w W3)))):=hid9 fun la lc W ⟨h1,h2⟩=>by
  refine (check_any _ m lc bs hl W (hbl h1) (by omega)).mono fun e W1 hx=>?_
  rw [← her,← hs] at hx
  have hx1:=hx.1
  obtain ⟨p0,l0,p1,l1,p3,l3,p4,l4,p5,l5,p6,l6,D,g1,g2,_⟩:=rep_uni hx
  refine ⟨p0,l0,p1,l1,p3,l3,p4,l4,p5,l5,p6,l6,g1,hid9 ?_⟩
  generalize hX:Obj.cells _ 30=X
  obtain ⟨W2,hW2⟩:∃ W2,W2=W1.alloc X:=⟨_,rfl⟩
  have b2:Below W1.heap.size W1 W2:=by rw [hW2];exact (Below.refl _ _).alloc (Nat.le_refl _) _
  have e2:W2.heap[W1.heap.size]?=some X:=by rw [hW2];exact heap_alloc_new W1 _
  rw [← hX] at e2
  rw [← hW2]
  have k1:=h2.trans (hx1.mono h2.size)
  have k2:=k1.trans (b2.mono k1.size)
  refine (rcheck10_any a m c bs hl W2 (hB.keep (below_keep k2)) hm).mono fun e W3 hy=>?_
  rw [← her,← hs] at hy
  have hy1:=hy.1
  obtain ⟨q0,m0,q1,m1,q3,m3,q4,m4,q5,m5,q6,m6,D',g3,g4⟩:=rrep_uni hy
  refine ⟨q0,m0,q1,m1,q3,m3,q4,m4,q5,m5,q6,m6,g3,?_⟩
  generalize hY:Obj.cells _ 34=Y
  obtain ⟨W4,hW4⟩:∃ W4,W4=W3.alloc Y:=⟨_,rfl⟩
  have b4:Below W3.heap.size W3 W4:=by rw [hW4];exact (Below.refl _ _).alloc (Nat.le_refl _) _
  rw [← hW4]
  have b24:Below W2.heap.size W2 W4:=hy1.trans (b4.mono hy1.size)
  have b14:Below W1.heap.size W1 W4:=b2.trans (b24.mono b2.size)
  refine ⟨cel7_of ((b24.block _ (heap_lt e2)).trans e2),hid9 ((same_uni (g2.keep (below_keep b14)) (g4.keep (below_keep b4)) hf hsf).mono fun e W5 ⟨j1,j2⟩=>⟨j1,hid9 ?_⟩)⟩
  have b15:=b14.trans (j2.mono b14.size)
  have bw5:=hx1.trans (b15.mono hx1.size)
  exact ⟨Own.below h1 bw5,h2.trans (bw5.mono h2.size)⟩
 clear hB hl hf hsf her hs hbl
 generalize (rS er s).consts.length=k0 at HC
 generalize (rS er s).funcs.length=k1 at HC
 generalize rG er s=gv at HC
 go_enter Tryz.func3,Tryz.ntmps3
 go_wp2_with (first
  | (go_at_call 5;refine HLe.out.mono ?_;clear HLe;rintro e W0 ⟨la,lc,rfl,HS⟩)
  | (go_at_call 6;refine (HC.out _ _ _ HS.out).mono ?_;clear HC HS;rintro e W1 ⟨p0,l0,p1,l1,p3,l3,p4,l4,p5,l5,p6,l6,rfl,HA⟩)
  | (go_at_call 7;refine HA.out.mono ?_;clear HA;rintro e W2 ⟨q0,m0,q1,m1,q3,m3,q4,m4,q5,m5,q6,m6,rfl,⟨x0,x1,x2,x3,x4,x5,x6⟩,HA⟩)
  | (go_at_call 8;refine HA.out.mono ?_;clear HA;rintro e W3 ⟨rfl,HA⟩)
  | (go_at_call 9;refine (num10_any _ _).mono ?_;rintro e W9 ⟨rfl,w9e⟩;rw [w9e];clear w9e)
  | (go_at_call 10;refine (HSt.out _ _ _ HA.out).mono ?_;clear HSt HA;rintro e W4 ⟨rfl,HA⟩)
  | (go_at_call 11;refine (HKn.out _ HA.out).mono ?_;clear HKn HA;rintro e W7 ⟨rfl,HB⟩)
  | fail)
 all_goals (go_ret;exact ⟨rfl,HB.out⟩)
end Go.Proofs.YtpmlnkjamhelnaaGreat
