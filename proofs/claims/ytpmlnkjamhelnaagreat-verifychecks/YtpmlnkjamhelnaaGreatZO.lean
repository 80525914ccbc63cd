/- Layer 10: the document's Check of any bytes. -/
import Derived.Test.YtpmlnkjamhelnaaGreatZN
import Derived.Test.YtpmlnkjamhelnaaGreatZG
import Derived.Test.YtpmlnkjamhelnaaGreatDK
namespace Go.Proofs.YtpmlnkjamhelnaaGreat
open Go.RowKit
theorem gets_i64 (bs:List UInt8):∀ f ∈ (getS bs).funcs,∀ x ∈ f.code,-9223372036854775808≤x.2∧x.2≤9223372036854775807:=by
 unfold getS
 split
 ·exact gScr_i64 _
 ·intro f h;simp at h
theorem gets_fitsd (bs:List UInt8):(getS bs).fits:=by
 unfold getS
 split
 ·exact gScr_fits _
 ·exact ⟨by decide,by decide,fun f h=>by simp at h,fun x h=>by simp at h⟩
set_option maxRecDepth 100000 in
set_option maxHeartbeats 4000000 in
theorem rcheck10_any (a:Option Addr)(m c:Nat)(bs:List UInt8)(hm:bs.length=m)(w:World)(hB:Bs w a bs)(hm':m≤140737488351232):Calls Tryz.prog 7 #[.slice a m c] w (RRepEnd (chE bs) (getS bs) w):=by
 obtain ⟨w0,hw0⟩:∃ w0,w0=w.alloc (.cells #[.slice none 0 0,.slice none 0 0,.int .i64 0,.slice none 0 0,.slice none 0 0,.slice none 0 0,.slice none 0 0] 34):=⟨_,rfl⟩
 have b0:Below w.heap.size w w0:=by rw [hw0];exact (Below.refl _ w).alloc (Nat.le_refl _) _
 have z0:w0.heap[w.heap.size]?=some (.cells zero7 34 (0,0)):=by rw [hw0];exact heap_alloc_new w _
 have s0:w0.heap.size=w.heap.size+1:=by rw [hw0];simp
 have HG:Hid (Calls Tryz.prog 21 #[.slice a m c] (w.alloc (.cells #[.slice none 0 0,.slice none 0 0,.int .i64 0,.slice none 0 0,.slice none 0 0,.slice none 0 0,.slice none 0 0] 34)) fun e W1=>∃ x0 y0 x1 y1 n0 n1,e=.returned (.tuple #[.agg #[.slice x0 n0 y0,.slice x1 n1 y1],.int .i64 (getE4 bs)])∧May7 (W1.alloc (.cells #[.slice x0 n0 y0,.slice x1 n1 y1] 27)) w.heap.size∧(∀ i,(W1.alloc (.cells #[.slice x0 n0 y0,.slice x1 n1 y1] 27)).frozen? ⟨w.heap.size,i,none⟩=false)∧Hid (Below w.heap.size w (W1.alloc (.cells #[.slice x0 n0 y0,.slice x1 n1 y1] 27))∧(W1.alloc (.cells #[.slice x0 n0 y0,.slice x1 n1 y1] 27)).heap[w.heap.size]?=some (.cells zero7 34 (0,0))) ∧
   Hid (Calls Tryz.prog 15 #[.agg #[.slice x0 n0 y0,.slice x1 n1 y1]] (W1.alloc (.cells #[.slice x0 n0 y0,.slice x1 n1 y1] 27)) fun e W2=>∃ b0 k0 l0 b1 k1 l1 gv b3 k3 l3 b4 k4 l4 b5 k5 l5 b6 k6 l6 er,e=.returned (.tuple #[.agg #[.slice b0 k0 l0,.slice b1 k1 l1,.int .i64 gv,.slice b3 k3 l3,.slice b4 k4 l4,.slice b5 k5 l5,.slice b6 k6 l6],.int .i64 er])∧May7 W2 w.heap.size∧(∀ i,W2.frozen? ⟨w.heap.size,i,none⟩=false)∧Hid (W2.heap[w.heap.size]?=some (.cells zero7 34 (0,0))∧(getE4 bs=0→RRepEnd (chE bs) (getS bs) w (.returned (.tuple #[.agg #[.slice b0 k0 l0,.slice b1 k1 l1,.int .i64 gv,.slice b3 k3 l3,.slice b4 k4 l4,.slice b5 k5 l5,.slice b6 k6 l6],.int .i64 er])) (set7 W2 w.heap.size (.slice b0 k0 l0) (.slice b1 k1 l1) (.int .i64 gv) (.slice b3 k3 l3) (.slice b4 k4 l4) (.slice b5 k5 l5) (.slice b6 k6 l6)))))):=hid9 (by
  rw [← hw0]
  refine (rget4_any a m c bs hm w0 (hB.keep (below_keep b0)) hm').mono fun e W1 ⟨⟨u0,u1,e1,hS⟩,hb1⟩=>?_
  obtain ⟨⟨x0,y0,q0,n0⟩,⟨x1,y1,q1,n1⟩⟩:=hS
  subst q0;subst q1
  have hS:ScIs W1.cell? (getS bs) (.slice x0 (getS bs).consts.length y0) (.slice x1 (getS bs).funcs.length y1):=⟨⟨x0,y0,rfl,n0⟩,⟨x1,y1,rfl,n1⟩⟩
  obtain ⟨W3,hW3⟩:∃ W3,W3=W1.alloc (.cells #[.slice x0 (getS bs).consts.length y0,.slice x1 (getS bs).funcs.length y1] 27):=⟨_,rfl⟩
  have b3:Below W1.heap.size W1 W3:=by rw [hW3];exact (Below.refl _ _).alloc (Nat.le_refl _) _
  have k3:Below w0.heap.size w0 W3:=hb1.trans (b3.mono hb1.size)
  have z3:W3.heap[w.heap.size]?=some (.cells zero7 34 (0,0)):=(k3.block _ (by omega)).trans z0
  have kw:Below w.heap.size w W3:=b0.trans (k3.mono b0.size)
  refine ⟨x0,y0,x1,y1,_,_,e1,?_⟩
  rw [← hW3]
  refine ⟨⟨⟨_,Lib.cell_of_heap z3 0⟩,⟨_,Lib.cell_of_heap z3 1⟩,⟨_,Lib.cell_of_heap z3 2⟩,⟨_,Lib.cell_of_heap z3 3⟩,⟨_,Lib.cell_of_heap z3 4⟩,⟨_,Lib.cell_of_heap z3 5⟩,⟨_,Lib.cell_of_heap z3 6⟩⟩,fun i=>Lib.frozen_of_heap z3 i,hid9 ⟨kw,z3⟩,hid9 ((rof_any (getS bs) _ _ W3 (hS.keep (below_keep b3)) (gets_fitsd bs) (gets_i64 bs)).mono fun e W2 ⟨h1,h2⟩=>?_)⟩
  have z2:W2.heap[w.heap.size]?=some (.cells zero7 34 (0,0)):=(h1.block _ (heap_lt z3)).trans z3
  have k2:Below w.heap.size w W2:=kw.trans (h1.mono kw.size)
  have sz:=heap_lt z3
  have may:May7 W2 w.heap.size:=⟨⟨_,Lib.cell_of_heap z2 0⟩,⟨_,Lib.cell_of_heap z2 1⟩,⟨_,Lib.cell_of_heap z2 2⟩,⟨_,Lib.cell_of_heap z2 3⟩,⟨_,Lib.cell_of_heap z2 4⟩,⟨_,Lib.cell_of_heap z2 5⟩,⟨_,Lib.cell_of_heap z2 6⟩⟩
  rcases h2 with ⟨h3,h4⟩ | ⟨h3,v0,v1,sa,sc,da,dc,oa,oc,ra,rc,d,o,h4,hr,hR⟩
  ·exact ⟨none,0,0,none,0,0,0,none,0,0,none,0,0,none,0,0,none,0,0,_,h4,may,fun i=>Lib.frozen_of_heap z2 i,hid9 ⟨z2,fun h0=>⟨below_set7 k2 (Nat.le_refl _),.inl ⟨by rw [chE,if_pos h0];exact h3,by rw [chE,if_pos h0];rfl⟩⟩⟩⟩
  ·obtain ⟨⟨p0,r0,q0,_⟩,⟨p1,r1,q1,_⟩⟩:=hR.scr
   subst q0;subst q1
   exact ⟨p0,_,r0,p1,_,r1,_,sa,_,sc,da,_,dc,oa,_,oc,ra,_,rc,_,h4,may,fun i=>Lib.frozen_of_heap z2 i,hid9 ⟨z2,fun h0=>⟨below_set7 k2 (Nat.le_refl _),.inr ⟨by rw [chE,if_pos h0];exact h3,_,_,sa,sc,da,dc,oa,oc,ra,rc,d,o,rfl,hr,hR.keep fun a x h=>hiC_low (Nat.le_of_lt sz) _ _ (hiC_set7 sz _ _ h)⟩⟩⟩⟩)
 have HB0:Hid (∀ W,getE4 bs≠0→Below w.heap.size w W→RRepEnd (chE bs) (getS bs) w (.returned (.tuple #[.agg #[.slice none 0 0,.slice none 0 0,.int .i64 0,.slice none 0 0,.slice none 0 0,.slice none 0 0,.slice none 0 0],.int .i64 (getE4 bs)])) (set7 W w.heap.size (.slice none 0 0) (.slice none 0 0) (.int .i64 0) (.slice none 0 0) (.slice none 0 0) (.slice none 0 0) (.slice none 0 0))):=hid9 fun W h hb=>⟨below_set7 hb (Nat.le_refl _),.inl ⟨by rw [chE,if_neg h];exact h,by rw [chE,if_neg h];rfl⟩⟩
 clear hw0 b0 z0 s0 hB hm hm'
 generalize getE4 bs=ge at *
 by_cases hge:ge=0
 ·subst hge
  clear HB0
  go_enter Tryz.func7,Tryz.ntmps7
  go_wp2_with (first
   | (go_at_call 21;refine HG.out.mono ?_;clear HG;rintro e w3 ⟨x0,y0,x1,y1,n0,n1,rfl,_,_,_,HO⟩)
   | (go_at_call 15;refine HO.out.mono ?_;clear HO;rintro e W2 ⟨b0,k0,l0,b1,k1,l1,gv,b3,k3,l3,b4,k4,l4,b5,k5,l5,b6,k6,l6,er,rfl,⟨⟨u0,m0⟩,⟨u1,m1⟩,⟨u2,m2⟩,⟨u3,m3⟩,⟨u4,m4⟩,⟨u5,m5⟩,⟨u6,m6⟩⟩,fz,HQ⟩;have f0:=fz 0;have f1:=fz 1;have f2:=fz 2;have f3:=fz 3;have f4:=fz 4;have f5:=fz 5;have f6:=fz 6;clear fz)
   | fail)
  exact ret_repd rfl rfl rfl rfl HQ.out.1 (HQ.out.2 (by trivial))
 ·have hne:(ge != 0)=true:=by simpa using hge
  go_enter Tryz.func7,Tryz.ntmps7
  go_wp2_with (first
   | (go_at_call 21;refine HG.out.mono ?_;clear HG;rintro e w3 ⟨x0,y0,x1,y1,n0,n1,rfl,⟨⟨u0,m0⟩,⟨u1,m1⟩,⟨u2,m2⟩,⟨u3,m3⟩,⟨u4,m4⟩,⟨u5,m5⟩,⟨u6,m6⟩⟩,fz,HZ,_⟩;have f0:=fz 0;have f1:=fz 1;have f2:=fz 2;have f3:=fz 3;have f4:=fz 4;have f5:=fz 5;have f6:=fz 6;clear fz)
   | fail)
  exact ret_repd rfl rfl rfl rfl HZ.out.2 (HB0.out _ hge HZ.out.1)
end Go.Proofs.YtpmlnkjamhelnaaGreat
