/- What the document reads: a function. -/
import Derived.Test.YtpmlnkjamhelnaaGreatDH
namespace Go.Proofs.YtpmlnkjamhelnaaGreat
open Go.RowKit
def FnEndF (f:Fn)(q g:Nat)(bs:List UInt8)(st:RSt)(w:World)(x:Ending)(w':World):Prop:=(∃ u0 u1 u2 u3,x=.returned (.agg #[u0,u1,u2,u3])∧FnOwn w' w.heap.size f u0 u1 u2 u3)∧FS w' q g bs st∧Chg w w' (fun k=>k=q)
theorem World.setCell_size (w:World)(a:Addr)(u:Value):(w.setCell a u).heap.size=w.heap.size:=by simp [World.setCell]
theorem manyI_snoc' (L:List (Int × Int))(x:Int × Int):cellsI (L++[x])=cellsI L++[.int .i64 x.1,.int .i64 x.2]:=by simp [cellsI]
set_option maxRecDepth 100000 in
set_option maxHeartbeats 8000000 in
theorem rfunction_any (q g:Nat)(bs:List UInt8)(s:RSt)(w:World)(H:FS w q g bs s)(hg:g<w.heap.size):Calls Tryz.prog 40 #[.pointer (some ⟨q,0,none⟩)] w (FnEndF (gFn s).1 q g bs (gFn s).2 w):=by
 have hq:=H.cell.2
 obtain ⟨W0,hW0⟩:∃ W0,W0=w.alloc (.cells #[.slice none 0 0,.slice none 0 0,.slice none 0 0,.slice none 0 0] 49):=⟨_,rfl⟩
 have hz0:w.heap.size+1≤W0.heap.size:=by rw [hW0];simp
 have hC0:Chg w W0 (fun k=>k=q):=by rw [hW0];exact Chg.alloc w _ _
 have H0:FS W0 q g bs s:=by rw [hW0];exact H.chg (Chg.alloc w _ (fun _=>False)) id id
 have b0:W0.heap[w.heap.size]?=some (.cells #[.slice none 0 0,.slice none 0 0,.slice none 0 0,.slice none 0 0] 49 (0,0)):=by rw [hW0];exact heap_alloc_new w _
 have hI:∀ (W:World) (s:RSt),FS W q g bs s→w.heap.size≤W.heap.size→Calls Tryz.prog 73 #[.pointer (some ⟨q,0,none⟩)] W (ManyEndF 3 1 (gTypes s).1.length (cellsN (gTypes s).1) q g bs (gTypes s).2 W):=fun W s h hz=>rints_any q g bs s W h (Nat.lt_of_lt_of_le hg hz)
 have hF:gFn s=(⟨(gTypes s).1,(gTypes (gTypes s).2).1,(gTypes (gTypes (gTypes s).2).2).1,(gCode (gTypes (gTypes (gTypes s).2).2).2).1⟩,(gCode (gTypes (gTypes (gTypes s).2).2).2).2):=rfl
 rw [hF]
 clear hF
 have hT0:=hI W0 s H0 (by omega)
 obtain ⟨P0,hP0⟩:∃ x,x=(gTypes s).1:=⟨_,rfl⟩
 obtain ⟨s0,hs0⟩:∃ x,x=(gTypes s).2:=⟨_,rfl⟩
 rw [← hP0,← hs0] at hT0 ⊢
 have hT1:=fun W h=>hI W s0 h
 obtain ⟨P1,hP1⟩:∃ x,x=(gTypes s0).1:=⟨_,rfl⟩
 obtain ⟨s1,hs1⟩:∃ x,x=(gTypes s0).2:=⟨_,rfl⟩
 rw [← hP1,← hs1] at hT1 ⊢
 have hT2:=fun W h=>hI W s1 h
 obtain ⟨P2,hP2⟩:∃ x,x=(gTypes s1).1:=⟨_,rfl⟩
 obtain ⟨s2,hs2⟩:∃ x,x=(gTypes s1).2:=⟨_,rfl⟩
 rw [← hP2,← hs2] at hT2 ⊢
 obtain ⟨n1,l1,e1⟩:=gByte_nat s2
 obtain ⟨n2,l2,e2⟩:=gByte_nat (gByte s2).2
 have hB1:∀ W,FS W q g bs s2→_:=fun W HW=>fbyte_s q g bs s2 W HW
 have hG:gCode s2=gMany gIns (n1*256+n2) (gByte (gByte s2).2).2:=by unfold gCode;rw [e1,e2,Int.toNat_natCast,Int.toNat_natCast]
 rw [hG]
 rw [e1] at hB1
 generalize (gByte s2).2=s3 at *
 have hB2:∀ W,FS W q g bs s3→_:=fun W HW=>fbyte_s q g bs s3 W HW
 rw [e2] at hB2
 generalize (gByte s3).2=s4 at *
 have hNn:256*(n1:Int)+(n2:Int)=((n1*256+n2:Nat):Int):=by omega
 have hNl:n1*256+n2≤65535:=by omega
 generalize n1*256+n2=N at hNn hNl ⊢
 clear hG e1 e2 hP0 hP1 hP2 hs0 hs1 hs2 hI
 have fin:∀ (W:World) (B:Nat) (r0 r1 r2 r3:Value) (L:List (Int × Int)) (st':RSt),gMany gIns N s4=(L,st')→FnSt w q g bs B W st' r0 r1 r2 r3 P0 P1 P2 L→FnEndF ⟨P0,P1,P2,(gMany gIns N s4).1⟩ q g bs (gMany gIns N s4).2 w (.returned (.agg #[r0,r1,r2,r3])) (set4 W w.heap.size r0 r1 r2 r3):=fun W B r0 r1 r2 r3 L st' e h=>by
  rw [e]
  have hc:=chg_set4 W w.heap.size r0 r1 r2 r3
  have key:∀ {e:TypeId} {size n:Nat} {v:Value} {xs:List Value},e≠49→W.ownsRow w.heap.size e size v n xs→(set4 W w.heap.size r0 r1 r2 r3).ownsRow w.heap.size e size v n xs:=fun hne hr=>set4k_row_other (o:=0) r0 r1 r2 r3 hr h.res hne
  exact ⟨⟨r0,r1,r2,r3,rfl,key (by decide) h.q0,key (by decide) h.q1,key (by decide) h.q2,key (by decide) h.q3⟩,h.fs.chg hc (by omega) (by omega),h.chg.trans hc fun i hi e=>by omega⟩
 go_enter Tryz.func40,Tryz.ntmps40
 go_wp2_with fail
 rw [← hW0]
 clear hW0
 refine hT0.mono ?_
 clear hT0
 rintro e w1 ⟨⟨r0,rfl,q0⟩,F1,c1⟩
 have z1:=c1.size
 obtain ⟨x0,d0,rfl,_⟩:=row_form q0
 obtain ⟨B,hBe⟩:∃ B,B=w1.heap.size:=⟨_,rfl⟩
 have S1:FnSt w q g bs B (w1.alloc (.cells #[.slice x0 P0.length d0,.slice none 0 0,.slice none 0 0,.slice none 0 0] 49)) s0 (.slice x0 P0.length d0) (.slice none 0 0) (.slice none 0 0) (.slice none 0 0) P0 [] [] []:=by
  rw [hBe]
  exact ⟨heap_alloc_new w1 _,World.ownsRow.alloc (row_lower q0 (by omega)) _,World.ownsRow_nil _ _ _ _,World.ownsRow_nil _ _ _ _,World.ownsRow_nil _ _ _ _,F1.chg (Chg.alloc w1 _ (fun _=>False)) id id,(hC0.trans c1 fun _ _ e=>e).trans (Chg.alloc w1 _ _) fun _ _ e=>e,by rw [Below.heap_alloc _ _ _ (by omega)];exact (c1.block _ (lt_of_block b0) (by omega)).trans b0,by omega,hq,hg⟩
 have hU1:=hT1 _ S1.fs S1.chg.size
 clear hT1 F1 c1 q0
 go_wp2_with fail
 refine hU1.mono ?_
 clear hU1
 rintro e w2 ⟨⟨r1,rfl,q1⟩,F2,c2⟩
 have S2:=S1.call c2 F2
 have zS:=S1.chg.size
 obtain ⟨x1,d1,rfl,_⟩:=row_form q1
 have S3:=S2.set1 (row_lower q1 zS)
 obtain ⟨⟨i0,i1,i2,i3⟩,iz⟩:=S2.cells
 have f1:=iz 1
 rw [← hBe]
 clear S1 F2 c2 q1 hBe
 have hU2:=hT2 _ S3.fs S3.chg.size
 clear hT2
 go_wp2_with fail
 refine hU2.mono ?_
 clear hU2
 rintro e w4 ⟨⟨r2,rfl,q2⟩,F4,c4⟩
 have S4:=S3.call c4 F4
 have zS3:=S3.chg.size
 obtain ⟨x2,d2,rfl,_⟩:=row_form q2
 have S5:=S4.set2 (row_lower q2 zS3)
 obtain ⟨⟨m0,m1,m2,m3⟩,mz⟩:=S4.cells
 have g2:=mz 2
 clear S2 S3 F4 c4 q2 i0 i1 i2 i3 iz f1
 have hU3:=hB1 _ S5.fs
 clear hB1
 go_wp2_with fail
 refine hU3.mono ?_
 clear hU3
 rintro e w6 ⟨rfl,F6,c6⟩
 have S6:=S5.call c6 F6
 have hU4:=hB2 _ S6.fs
 clear hB2 S4 S5 m0 m1 m2 m3 mz g2 F6 c6
 go_wp2_with (go_at_call 38;refine hU4.mono ?_;clear hU4;rintro e w7 ⟨rfl,F7,c7⟩)
 have S7:=S6.call c7 F7
 obtain ⟨r0,hr0⟩:∃ r,r=Value.slice x0 P0.length d0:=⟨_,rfl⟩
 obtain ⟨r1,hr1⟩:∃ r,r=Value.slice x1 P1.length d1:=⟨_,rfl⟩
 obtain ⟨r2,hr2⟩:∃ r,r=Value.slice x2 P2.length d2:=⟨_,rfl⟩
 rw [← hr0,← hr1,← hr2] at S7
 have e0:=hid hr0
 have e1:=hid hr1
 have e2:=hid hr2
 clear S6 F7 c7 hr0 hr1 hr2
 go_loopw [5] (fun i wr=>∃ (k:Nat) (L:List (Int × Int)) (s:RSt) (r3:Value),k≤N∧i=.int .i64 k∧L.length=k∧Hid (gMany gIns N s4=(L++(gMany gIns (N - k) s).1,(gMany gIns (N - k) s).2))∧FnSt w q g bs B wr s r0 r1 r2 r3 P0 P1 P2 L) (fun i _=>N - (intOf i).toNat)
 case atStart=>exact ⟨0,[],s4,.slice none 0 0,Nat.zero_le _,rfl,rfl,hid (by simp),S7⟩
 case round =>
  obtain ⟨k,L,s,r3,hk,rfl,hL,HM,S⟩:=hrel
  obtain ⟨ce,hqw⟩:=S.fs.cell
  by_cases hlt:k<N
  ·by_cases herr:s.2=0
   ·have HM':=hid (gMany_round hlt herr HM.out)
    rw [herr] at ce
    have hO:=fbyte_s q g bs s wr S.fs
    have hTk:=rtakes_s (gByte s).1
    have HV:=hid (manyI_snoc' L (gIns s).1)
    have hsz:=S.chg.size
    have hBw:=lt_of_block S.blk
    have hB0:=S.hB
    have hrow0:=row_lt4 S.q3
    have hkr:=S.q3
    rw [hL] at hkr
    clear HM
    by_cases t0:takesN (gByte s).1=0
    ·have hE:gIns s=(((gByte s).1,0),(gByte s).2):=by unfold gIns;rw [if_pos t0]
     rw [hE] at HM' HV
     rw [t0] at hTk
     generalize (gByte s).1=o at hO hTk HM' HV
     generalize (gByte s).2=s8 at hO HM' HV
     clear hE t0
     go_wp2_with fail
     refine hO.mono ?_
     clear hO
     rintro e w8 ⟨rfl,F8,c8⟩
     have S8:=S.call c8 F8
     have z8:=c8.size
     have S9:=S8.alloc (.cells #[.int .i64 o,.int .i64 0] 74)
     have b9:=heap_alloc_new w8 (.cells #[.int .i64 o,.int .i64 0] 74)
     go_wp2_with fail
     refine (hTk _).mono ?_
     clear hTk
     rintro e w10 ⟨rfl,hb10⟩
     have S10:=S9.below hb10
     have z10:w8.heap.size+1≤w10.heap.size:=by have:=hb10.size;simpa using this
     have b10:=(hb10.block _ (lt_of_block b9)).trans b9
     obtain ⟨p0,p1,p2,p3⟩:=cells2 b10
     obtain ⟨⟨c0,c1,c2,c3⟩,_⟩:=S10.cells
     have k10:=S10.q3
     rw [hL] at k10
     obtain ⟨xs,hxs⟩:∃ xs,xs=cellsI L:=⟨_,rfl⟩
     rw [← hxs] at k10 HV
     have HXS:=hid hxs
     clear hxs
     have hBx:B<w8.heap.size:=by omega
     have hBx':¬ B=w8.heap.size:=by omega
     clear F8 c8 S8 S9 hb10
     go_wp2_with (first | (at_builtin;refine wpList_appN _ rfl _ _ 47 rfl elemN_ins w.heap.size _ k xs rfl (World.ownsRow.alloc k10 _) _ rfl 1 [Value.int .i64 o,.int .i64 0] (.inr ⟨⟨(w10).heap.size,0,none⟩,1,rfl,cells_new4 (w10) [Value.int .i64 o,.int .i64 0] 74 _ rfl⟩) rfl (by simp [Value.oneCell']) (by unfold maxLen;omega) (by omega) (by simp;omega) ?_;intro v' w12 hr12 hs12;obtain ⟨y12,t12,rfl,_⟩:=row_form hr12;have b12:=step_blk (World.ownsRow.alloc k10 _) hs12 (S10.alloc (.cells #[.int .i64 o,.int .i64 0] 74)).blk (by decide);have m3:w12.cell? ⟨B,3,none⟩=some r3:=(by rw [Lib.cell_of_heap b12];rfl);have g3:=Lib.frozen_of_heap b12 3))
     have S12:=(S10.alloc (.cells #[.int .i64 o,.int .i64 0] 74)).app hs12 (P:=L++[(o,0)]) (by rw [HV.out];simpa [hL] using hr12)
     exact ⟨⟨k+1,L++[(o,0)],s8,_,by omega,by go_num,by simp [hL],HM',S12⟩,by simp [intOf];omega⟩
    by_cases t1:takesN (gByte s).1=1
    ·have hE:gIns s=(((gByte s).1,(gInt (gByte s).2).1),(gInt (gByte s).2).2):=by unfold gIns;rw [if_neg t0,if_pos t1]
     rw [hE] at HM' HV
     rw [t1] at hTk
     generalize (gByte s).1=o at hO hTk HM' HV
     generalize (gByte s).2=s8 at hO HM' HV
     have hN8:∀ W,FS W q g bs s8→_:=fun W HW=>fint_s q g bs s8 W HW
     generalize (gInt s8).1=a at hN8 HM' HV
     generalize (gInt s8).2=s9 at hN8 HM' HV
     clear hE t0 t1
     go_wp2_with fail
     refine hO.mono ?_
     clear hO
     rintro e w8 ⟨rfl,F8,c8⟩
     have S8:=S.call c8 F8
     have z8:=c8.size
     have S9:=S8.alloc (.cells #[.int .i64 o,.int .i64 0] 74)
     have b9:=heap_alloc_new w8 (.cells #[.int .i64 o,.int .i64 0] 74)
     go_wp2_with fail
     refine (hTk _).mono ?_
     clear hTk
     rintro e w10 ⟨rfl,hb10⟩
     have S10:=S9.below hb10
     have z10:w8.heap.size+1≤w10.heap.size:=by have:=hb10.size;simpa using this
     have b10:=(hb10.block _ (lt_of_block b9)).trans b9
     obtain ⟨p0,p1,p2,p3⟩:=cells2 b10
     obtain ⟨⟨c0,c1,c2,c3⟩,_⟩:=S10.cells
     have k10:=S10.q3
     rw [hL] at k10
     obtain ⟨xs,hxs⟩:∃ xs,xs=cellsI L:=⟨_,rfl⟩
     rw [← hxs] at k10 HV
     have HXS:=hid hxs
     clear hxs
     have hBx:B<w8.heap.size:=by omega
     have hBx':¬ B=w8.heap.size:=by omega
     clear F8 c8 S8 S9 hb10
     have hN:=hN8 _ S10.fs
     clear hN8
     go_wp2_with fail
     refine hN.mono ?_
     clear hN
     rintro e w11 ⟨rfl,F11,c11⟩
     have S11:=S10.call c11 F11
     have z11:=c11.size
     have hq0:=S10.hq
     have b11:=(c11.block _ (lt_of_block b10) (by omega)).trans b10
     obtain ⟨p0,p1,p2,p3⟩:=cells2 b11
     have S11':=S11.other (o:=1) (u:=.int .i64 a) (by omega) (by omega) b11 (fun k e=>by have:=(hrow0 k e).2;omega)
     obtain ⟨⟨c0,c1,c2,c3⟩,_⟩:=S11'.cells
     have k11:=S11'.q3
     rw [hL] at k11
     have k11':(w11.setCell ⟨w8.heap.size,1,none⟩ (.int .i64 a)).ownsRow w.heap.size 74 2 r3 k xs:=by rw [HXS.out];exact k11
     obtain ⟨p4,p5,_,_⟩:=cells2 (set2_1 (u:=.int .i64 a) b11)
     go_wp2_with (first | (at_builtin;refine wpList_appN _ rfl _ _ 47 rfl elemN_ins w.heap.size _ k xs rfl (World.ownsRow.alloc k11' _) _ rfl 1 [Value.int .i64 o,.int .i64 a] (.inr ⟨⟨w11.heap.size,0,none⟩,1,rfl,cells_new4 (w11.setCell ⟨w8.heap.size,1,none⟩ (.int .i64 a)) [Value.int .i64 o,.int .i64 a] 74 w11.heap.size (World.setCell_size _ _ _)⟩) rfl (by simp [Value.oneCell']) (by unfold maxLen;omega) (by omega) (by simp;omega) ?_;intro v' w12 hr12 hs12;obtain ⟨y12,t12,rfl,_⟩:=row_form hr12;have b12:=step_blk (World.ownsRow.alloc k11' _) hs12 (S11'.alloc (.cells #[.int .i64 o,.int .i64 a] 74)).blk (by decide);have m3:w12.cell? ⟨B,3,none⟩=some r3:=(by rw [Lib.cell_of_heap b12];rfl);have g3:=Lib.frozen_of_heap b12 3))
     have S12:=(S11'.alloc (.cells #[.int .i64 o,.int .i64 a] 74)).app hs12 (P:=L++[(o,a)]) (by rw [HV.out];simpa [hL] using hr12)
     exact ⟨⟨k+1,L++[(o,a)],s9,_,by omega,by go_num,by simp [hL],HM',S12⟩,by simp [intOf];omega⟩
    ·have hE:gIns s=(((gByte s).1,(gByte (gByte s).2).1),(gByte (gByte s).2).2):=by unfold gIns;rw [if_neg t0,if_neg t1]
     rw [hE] at HM' HV
     have n0:(takesN (gByte s).1 == 0)=false:=by simp [t0]
     have n1:(takesN (gByte s).1 == 1)=false:=by simp [t1]
     generalize takesN (gByte s).1=tk at hTk n0 n1 t0 t1
     generalize (gByte s).1=o at hO hTk HM' HV
     generalize (gByte s).2=s8 at hO HM' HV
     have hN8:∀ W,FS W q g bs s8→_:=fun W HW=>fbyte_s q g bs s8 W HW
     generalize (gByte s8).1=a at hN8 HM' HV
     generalize (gByte s8).2=s9 at hN8 HM' HV
     clear hE t0 t1
     go_wp2_with fail
     refine hO.mono ?_
     clear hO
     rintro e w8 ⟨rfl,F8,c8⟩
     have S8:=S.call c8 F8
     have z8:=c8.size
     have S9:=S8.alloc (.cells #[.int .i64 o,.int .i64 0] 74)
     have b9:=heap_alloc_new w8 (.cells #[.int .i64 o,.int .i64 0] 74)
     go_wp2_with fail
     refine (hTk _).mono ?_
     clear hTk
     rintro e w10 ⟨rfl,hb10⟩
     have S10:=S9.below hb10
     have z10:w8.heap.size+1≤w10.heap.size:=by have:=hb10.size;simpa using this
     have b10:=(hb10.block _ (lt_of_block b9)).trans b9
     obtain ⟨p0,p1,p2,p3⟩:=cells2 b10
     obtain ⟨⟨c0,c1,c2,c3⟩,_⟩:=S10.cells
     have k10:=S10.q3
     rw [hL] at k10
     obtain ⟨xs,hxs⟩:∃ xs,xs=cellsI L:=⟨_,rfl⟩
     rw [← hxs] at k10 HV
     have HXS:=hid hxs
     clear hxs
     have hBx:B<w8.heap.size:=by omega
     have hBx':¬ B=w8.heap.size:=by omega
     clear F8 c8 S8 S9 hb10
     have hN:=hN8 _ S10.fs
     clear hN8
     go_wp2_with fail
     refine hN.mono ?_
     clear hN
     rintro e w11 ⟨rfl,F11,c11⟩
     have S11:=S10.call c11 F11
     have z11:=c11.size
     have hq0:=S10.hq
     have b11:=(c11.block _ (lt_of_block b10) (by omega)).trans b10
     obtain ⟨p0,p1,p2,p3⟩:=cells2 b11
     have S11':=S11.other (o:=1) (u:=.int .i64 a) (by omega) (by omega) b11 (fun k e=>by have:=(hrow0 k e).2;omega)
     obtain ⟨⟨c0,c1,c2,c3⟩,_⟩:=S11'.cells
     have k11:=S11'.q3
     rw [hL] at k11
     have k11':(w11.setCell ⟨w8.heap.size,1,none⟩ (.int .i64 a)).ownsRow w.heap.size 74 2 r3 k xs:=by rw [HXS.out];exact k11
     obtain ⟨p4,p5,_,_⟩:=cells2 (set2_1 (u:=.int .i64 a) b11)
     go_wp2_with (first | (at_builtin;refine wpList_appN _ rfl _ _ 47 rfl elemN_ins w.heap.size _ k xs rfl (World.ownsRow.alloc k11' _) _ rfl 1 [Value.int .i64 o,.int .i64 a] (.inr ⟨⟨w11.heap.size,0,none⟩,1,rfl,cells_new4 (w11.setCell ⟨w8.heap.size,1,none⟩ (.int .i64 a)) [Value.int .i64 o,.int .i64 a] 74 w11.heap.size (World.setCell_size _ _ _)⟩) rfl (by simp [Value.oneCell']) (by unfold maxLen;omega) (by omega) (by simp;omega) ?_;intro v' w12 hr12 hs12;obtain ⟨y12,t12,rfl,_⟩:=row_form hr12;have b12:=step_blk (World.ownsRow.alloc k11' _) hs12 (S11'.alloc (.cells #[.int .i64 o,.int .i64 a] 74)).blk (by decide);have m3:w12.cell? ⟨B,3,none⟩=some r3:=(by rw [Lib.cell_of_heap b12];rfl);have g3:=Lib.frozen_of_heap b12 3))
     have S12:=(S11'.alloc (.cells #[.int .i64 o,.int .i64 a] 74)).app hs12 (P:=L++[(o,a)]) (by rw [HV.out];simpa [hL] using hr12)
     exact ⟨⟨k+1,L++[(o,a)],s9,_,by omega,by go_num,by simp [hL],HM',S12⟩,by simp [intOf];omega⟩
   ·have hne:(s.2 == 0)=false:=by simp [herr]
    have hE:=gMany_end (.inr herr) HM.out
    have hF:=fin wr B r0 r1 r2 r3 L s hE S
    clear HM fin hE
    generalize s.2=er at ce hne
    obtain ⟨⟨c0,c1,c2,c3⟩,_⟩:=S.cells
    obtain ⟨x3,d3,rfl,_⟩:=row_form S.q3
    rw [e0.out] at c0
    rw [e1.out] at c1
    rw [e2.out] at c2
    rw [e0.out,e1.out,e2.out,hL] at hF
    rw [hL] at c3
    have b7:=S.res
    have y0:wr.cell? ⟨w.heap.size,0,none⟩=some (.slice none 0 0):=by rw [Lib.cell_of_heap b7];rfl
    have y1:wr.cell? ⟨w.heap.size,1,none⟩=some (.slice none 0 0):=by rw [Lib.cell_of_heap b7];rfl
    have y2:wr.cell? ⟨w.heap.size,2,none⟩=some (.slice none 0 0):=by rw [Lib.cell_of_heap b7];rfl
    have y3:wr.cell? ⟨w.heap.size,3,none⟩=some (.slice none 0 0):=by rw [Lib.cell_of_heap b7];rfl
    have o0:=Lib.frozen_of_heap b7 0
    have o1:=Lib.frozen_of_heap b7 1
    have o2:=Lib.frozen_of_heap b7 2
    have o3:=Lib.frozen_of_heap b7 3
    obtain ⟨j0,j1,j2,j3⟩:=set4_cells (.slice x0 P0.length d0) (.slice x1 P1.length d1) (.slice x2 P2.length d2) (.slice x3 k d3) y0 y1 y2 y3
    go_wp2_with fail
    rw [show ((((wr.setCell ⟨w.heap.size,0,none⟩ (.slice x0 P0.length d0)).setCell ⟨w.heap.size,1,none⟩ (.slice x1 P1.length d1)).setCell ⟨w.heap.size,2,none⟩ (.slice x2 P2.length d2)).setCell ⟨w.heap.size,3,none⟩ (.slice x3 k d3))=set4 wr w.heap.size (.slice x0 P0.length d0) (.slice x1 P1.length d1) (.slice x2 P2.length d2) (.slice x3 k d3) from rfl]
    generalize set4 wr w.heap.size (.slice x0 P0.length d0) (.slice x1 P1.length d1) (.slice x2 P2.length d2) (.slice x3 k d3)=W9 at j0 j1 j2 j3 hF ⊢
    exact bodyPost_ret (results_cell1 rfl _ _ _ _ _ rfl (load_fn j0 j1 j2 j3)) rfl hF
  ·obtain rfl:k=N:=by omega
   have hE:=gMany_end (.inl rfl) HM.out
   have hF:=fin wr B r0 r1 r2 r3 L s hE S
   clear HM fin hE
   obtain ⟨⟨c0,c1,c2,c3⟩,_⟩:=S.cells
   obtain ⟨x3,d3,rfl,_⟩:=row_form S.q3
   rw [e0.out] at c0
   rw [e1.out] at c1
   rw [e2.out] at c2
   rw [e0.out,e1.out,e2.out,hL] at hF
   rw [hL] at c3
   have b7:=S.res
   have y0:wr.cell? ⟨w.heap.size,0,none⟩=some (.slice none 0 0):=by rw [Lib.cell_of_heap b7];rfl
   have y1:wr.cell? ⟨w.heap.size,1,none⟩=some (.slice none 0 0):=by rw [Lib.cell_of_heap b7];rfl
   have y2:wr.cell? ⟨w.heap.size,2,none⟩=some (.slice none 0 0):=by rw [Lib.cell_of_heap b7];rfl
   have y3:wr.cell? ⟨w.heap.size,3,none⟩=some (.slice none 0 0):=by rw [Lib.cell_of_heap b7];rfl
   have o0:=Lib.frozen_of_heap b7 0
   have o1:=Lib.frozen_of_heap b7 1
   have o2:=Lib.frozen_of_heap b7 2
   have o3:=Lib.frozen_of_heap b7 3
   obtain ⟨j0,j1,j2,j3⟩:=set4_cells (.slice x0 P0.length d0) (.slice x1 P1.length d1) (.slice x2 P2.length d2) (.slice x3 k d3) y0 y1 y2 y3
   go_wp2_with fail
   rw [show ((((wr.setCell ⟨w.heap.size,0,none⟩ (.slice x0 P0.length d0)).setCell ⟨w.heap.size,1,none⟩ (.slice x1 P1.length d1)).setCell ⟨w.heap.size,2,none⟩ (.slice x2 P2.length d2)).setCell ⟨w.heap.size,3,none⟩ (.slice x3 k d3))=set4 wr w.heap.size (.slice x0 P0.length d0) (.slice x1 P1.length d1) (.slice x2 P2.length d2) (.slice x3 k d3) from rfl]
   generalize set4 wr w.heap.size (.slice x0 P0.length d0) (.slice x1 P1.length d1) (.slice x2 P2.length d2) (.slice x3 k d3)=W9 at j0 j1 j2 j3 hF ⊢
   exact bodyPost_ret (results_cell1 rfl _ _ _ _ _ rfl (load_fn j0 j1 j2 j3)) rfl hF
end Go.Proofs.YtpmlnkjamhelnaaGreat
