/- The document's Check of layer 7, of a function of good shape. The document's Check and All of any script (layer 7). The document's All of any script (layer 7). -/
import Derived.Test.YtpmlnkjamhelnaaGreatCTg
import Derived.Test.YtpmlnkjamhelnaaGreatTS
import Derived.Test.YtpmlnkjamhelnaaGreatXE
namespace Go.Proofs.YtpmlnkjamhelnaaGreat
open Go.RowKit Go.Shelf
set_option maxRecDepth 100000 in
set_option maxHeartbeats 4000000 in
theorem rcheck_good (s:Scr)(V0:Value)(a1:Option Addr)(c1 k:Nat)(w:World)(hs:ScIs w.cell? s V0 (.slice a1 s.funcs.length c1))(hsf:s.fits)(hI64:∀ f ∈ s.funcs,∀ x ∈ f.code,-9223372036854775808≤x.2∧x.2≤9223372036854775807)(hr:s.right=true)(hk:k<s.funcs.length)(g:Fn)(hg:s.funcs[k]=g)(hgood:goodS g.code=true) :
  Calls Tryz.prog 57 #[.agg #[V0,.slice a1 s.funcs.length c1],.int .i64 k] w (StacksEnd (stacksS s.funcs g) w):=by
 obtain ⟨bf,_,hall⟩:=right_facts hr
 have hFR:=hall g (hg ▸ List.getElem_mem _)
 have hh:=right_heads hr
 have hgf:=hsf.2.2.1 g (hg ▸ List.getElem_mem _)
 have hgc:=hFR.c
 have hF:=hs.2
 obtain ⟨_,_,e1,n1⟩:=hF
 cases e1
 obtain ⟨fb,fo,rfl⟩:=fs_some n1 (by omega)
 obtain ⟨v0,v1,v2,v3,q0,q1,q2,q3,hFn⟩:∃ v0 v1 v2 v3,w.cell? ⟨fb,fo+k*4,none⟩=some v0∧w.cell? ⟨fb,fo+k*4+1,none⟩=some v1∧w.cell? ⟨fb,fo+k*4+2,none⟩=some v2∧w.cell? ⟨fb,fo+k*4+3,none⟩=some v3∧FnIs w.cell? g v0 v1 v2 v3:=by
  rcases n1 with h0 | ⟨b,off,e,h⟩
  ·rw [h0] at hk;cases hk
  ·cases e
   obtain ⟨v0,v1,v2,v3,h⟩:=h k hk
   rw [hg] at h
   exact ⟨v0,v1,v2,v3,h⟩
 have hFn':=hFn
 obtain ⟨⟨a5,c5,e5,_⟩,⟨a4,c4,e4,n4⟩,⟨a6,c6,e6,_⟩,⟨a3,c3,e3,n3⟩⟩:=hFn'
 subst e3 e4 e5 e6
 have hltF:=World.block_lt_of_cell? w _ q0
 have hkk:(k:Int)<s.funcs.length:=by omega
 have hk0:(0:Int)≤k:=by omega
 obtain ⟨A0,hA0⟩:∃ A0,A0=stacksS s.funcs g:=⟨_,rfl⟩
 rw [← hA0]
 have hst:=((good_iff g.code).1 hgood).1
 have hgs:=good_size hgood
 have b1:=(Below.refl _ w).alloc (Nat.le_refl _) (.cells #[V0,.slice (some ⟨fb,fo,none⟩) s.funcs.length c1] 27)
 have HR:Hid (Calls Tryz.prog 24 #[.agg #[V0,.slice (some ⟨fb,fo,none⟩) s.funcs.length c1]] (w.alloc (.cells #[V0,.slice (some ⟨fb,fo,none⟩) s.funcs.length c1] 27)) fun e W1=>e=.returned (.bool true)∧W1.cell? ⟨w.heap.size,1,none⟩=some (.slice (some ⟨fb,fo,none⟩) s.funcs.length c1)∧(W1.cell? ⟨fb,fo+k*4,none⟩=some (.slice a5 g.p.length c5)∧W1.cell? ⟨fb,fo+k*4+1,none⟩=some (.slice a4 g.r.length c4)∧W1.cell? ⟨fb,fo+k*4+2,none⟩=some (.slice a6 g.l.length c6)∧W1.cell? ⟨fb,fo+k*4+3,none⟩=some (.slice a3 g.code.length c3)) ∧
   Hid (Calls Tryz.prog 89 #[.slice a3 g.code.length c3] (W1.alloc (.cells #[(.slice a5 g.p.length c5),.slice a4 g.r.length c4,(.slice a6 g.l.length c6),.slice a3 g.code.length c3] 49)) fun e W4=>∃ mv,e=.returned (.tuple #[mv,.int .i64 0])∧Hid (W1.heap.size<W4.heap.size) ∧
    Hid (CkX s.funcs g V0 (some ⟨fb,fo,none⟩) c1 s.funcs.length w.heap.size W1.heap.size (.slice a5 g.p.length c5) (.slice a4 g.r.length c4) (.slice a6 g.l.length c6) (.slice a3 g.code.length c3) w W4))):=hid7 ((rright4_any s _ _ _ (hs.keep (below_keep b1)) hsf hI64).mono fun e W1 ⟨h1,h2⟩=>by
  have e2:(w.alloc (.cells #[V0,.slice (some ⟨fb,fo,none⟩) s.funcs.length c1] 27)).heap[w.heap.size]?=some (.cells #[V0,.slice (some ⟨fb,fo,none⟩) s.funcs.length c1] 27 (0,0)):=heap_alloc_new w _
  have e3:=(h2.block _ (blk_lt e2)).trans e2
  have bw1:=b1.trans (h2.mono b1.size)
  have kk:=below_keep bw1
  refine ⟨by rw [h1,hr],by rw [Lib.cell_of_heap e3];rfl,⟨kk _ _ q0,kk _ _ q1,kk _ _ q2,kk _ _ q3⟩,hid7 ?_⟩
  have b2:=(Below.refl _ W1).alloc (Nat.le_refl _) (.cells #[(.slice a5 g.p.length c5),.slice a4 g.r.length c4,(.slice a6 g.l.length c6),.slice a3 g.code.length c3] 49)
  have bw2:=bw1.trans (b2.mono bw1.size)
  refine (rmatch_any g.code a3 c3 _ rfl (by omega) _ (n3.keep (below_keep bw2))).mono fun e W4 ⟨m1,m2⟩=>?_
  rw [if_pos hgood] at m1
  obtain ⟨gb,_,he,_⟩:=m1
  have bw4:=bw2.trans (m2.mono bw2.size)
  have e5:(W1.alloc (.cells #[(.slice a5 g.p.length c5),.slice a4 g.r.length c4,(.slice a6 g.l.length c6),.slice a3 g.code.length c3] 49)).heap[W1.heap.size]?=some (.cells #[(.slice a5 g.p.length c5),.slice a4 g.r.length c4,(.slice a6 g.l.length c6),.slice a3 g.code.length c3] 49 (0,0)):=heap_alloc_new W1 _
  have e6:=(m2.block _ (blk_lt e5)).trans e5
  have e7:=(m2.block _ (blk_lt ((b2.block _ (blk_lt e3)).trans e3))).trans ((b2.block _ (blk_lt e3)).trans e3)
  have k4:=below_keep bw4
  exact ⟨_,he,hid7 (blk_lt e6),hid7 ⟨by rw [Lib.cell_of_heap e7];rfl,by rw [Lib.cell_of_heap e7];rfl,by rw [Lib.cell_of_heap e6];rfl,by rw [Lib.cell_of_heap e6];rfl,by rw [Lib.cell_of_heap e6];rfl,by rw [Lib.cell_of_heap e6];rfl,n1.keep k4,hFn.keep k4,bw4⟩⟩)
 have hA1:A0=chkFrom s.funcs (g.p++g.l) g.r g.code [] [] []:=by rw [hA0,stacksS,if_pos hgood]
 have hrl:=hFR.r
 have HI:=hid7 (And.intro hFR (And.intro hst (And.intro hgs (And.intro hA1 (And.intro hh (And.intro hgf (And.intro bf n4)))))))
 obtain ⟨N,hN⟩:∃ N,N=g.code.length:=⟨_,rfl⟩
 obtain ⟨rn,hrn⟩:∃ rn,rn=g.r.length:=⟨_,rfl⟩
 obtain ⟨fl,hfl⟩:∃ fl,fl=s.funcs.length:=⟨_,rfl⟩
 obtain ⟨pn,hpn⟩:∃ pn,pn=g.p.length:=⟨_,rfl⟩
 obtain ⟨ln,hln⟩:∃ ln,ln=g.l.length:=⟨_,rfl⟩
 rw [← hN,← hrn,← hfl,← hpn,← hln] at HR
 rw [← hfl] at hkk bf ⊢
 rw [← hN] at hgc
 rw [← hrn] at hrl
 have HN:=hid7 hN
 have HRN:=hid7 hrn
 have HFL:=hid7 hfl
 clear hs hFn hFR hst hgs hA0 hA1 hh hgf hall n1 n3 n4 b1 hN hrn hfl hpn hln hgood hr hsf hI64 q0 q1 q2 q3
 go_enter Tryz.func57,Tryz.ntmps57
 go_wp2_with (first
  | (go_at_call 24;refine HR.out.mono ?_;clear HR;rintro e W1 ⟨rfl,d1,⟨d2,d3,d4,d5⟩,HM⟩)
  | (go_at_call 89;refine HM.out.mono ?_;clear HM;rintro e W4 ⟨mv,rfl,hlt4,K4⟩)
  | fail)
 clear d1 d2 d3 d4 d5
 obtain ⟨B,hB⟩:∃ B,B=W4.heap.size:=⟨_,rfl⟩
 obtain ⟨Fb,hFb⟩:∃ Fb,Fb=W1.heap.size:=⟨_,rfl⟩
 rw [← hFb] at K4 ⊢
 have HX:Hid (∀ V,Below B W4 V→CkX s.funcs g V0 (some ⟨fb,fo,none⟩) c1 fl w.heap.size Fb (.slice a5 pn c5) (.slice a4 rn c4) (.slice a6 ln c6) (.slice a3 N c3) w V):=hid7 fun V hV=>K4.out.below (by rw [← hB];exact hV)
 have HB:=hid7 hB
 clear hFb hB hlt4
 go_loopw [9,10,11,12] (fun av ov lv iv wr=>∃ (i:Nat) (p:List Int) (D:List DBk) (R:List (List Int)) (vs ds:List Value) (la:Option Addr) (lc:Nat),iv=.int .i64 i∧i≤N∧lv=.slice la p.length lc∧Hid (DI s.funcs g A0 B W4 av ov i p D R vs ds la lc wr)) (fun _ _ _ iv _=>N - (intOf iv).toNat)
 case atStart=>exact ⟨0,[],[],[],[],[],none,0,rfl,Nat.zero_le _,rfl,hid7 ⟨⟨.inl ⟨rfl,.inl rfl⟩,Nat.le_refl _,World.ownsRow_nil _ _ _ _,⟨rfl,fun j h=>by cases h⟩,World.ownsRow_nil _ _ _ _,⟨rfl,fun j h=>by cases h⟩,Below.refl _ _,Nat.le_of_eq HB.out⟩,Nat.zero_le _,(fun b hb=>by cases hb),rfl,rfl,by rw [List.drop_zero];exact HI.out.2.2.2.1⟩⟩
 case round =>
  obtain ⟨i,p,D,R,vs,ds,la,lc,rfl,hi,rfl,hI⟩:=hrel
  obtain ⟨ra,rc,eav,hrc,_⟩:=row_form hI.out.m.row
  obtain ⟨oa,oc,eov,hoc,_,hox⟩:=row_form hI.out.m.orow
  subst eav eov
  have hcnt:=hI.out.cnt
  have hplen:=hI.out.len
  have ck:=HX.out wr hI.out.m.bel
  have w3:=ck.f3
  have w1:=ck.f1
  by_cases hiN:i<N
  ·have hil:i<g.code.length:=by rw [← HN.out];exact hiN
   obtain ⟨x,hx⟩:∃ x,g.code[i]=x:=⟨_,rfl⟩
   obtain ⟨b3,o3,e3,x0,x1⟩:∃ b3 o3,a3=some ⟨b3,o3,none⟩∧wr.cell? ⟨b3,o3+i*2,none⟩=some (.int .i64 x.1)∧wr.cell? ⟨b3,o3+i*2+1,none⟩=some (.int .i64 x.2):=by
    obtain ⟨_,_,_,⟨a,c,e,h⟩⟩:=ck.fn
    cases e
    rcases h with h0 | ⟨b,off,e,h⟩
    ·rw [h0] at hil;cases hil
    ·exact ⟨b,off,e,by rw [← hx];exact h i hil⟩
   subst e3
   have hs:=HI.out.2.1 i hil
   rw [show opA g.code i=x.1 by rw [← hx];exact ops_at hil] at hs
   have htok:=hI.out.goes.ok hs
   have hDl:D.length≤1000:=by have h1:=hI.out.goes.len;have h2:=HI.out.2.2.1 i (by omega);rw [List.length_map] at h1;omega
   obtain ⟨P1,P2,P3,P4⟩:=round_plain HI.out.2.2.2.2.1 hil hx hs hplen hI.out.obs hI.out.goes hcnt hI.out.run
   have b5:=(Below.refl _ wr).alloc (Nat.le_refl _) (.cells #[.int .i64 x.1,.int .i64 x.2] 74)
   have b6:=b5.alloc (by simp) (.cells #[.slice la p.length lc] 28)
   have M5:=hI.out.m.below b6
   have X5:DX s.funcs g V0 (some ⟨fb,fo,none⟩) c1 fl w.heap.size Fb (.slice a5 pn c5) (.slice a4 rn c4) (.slice a6 ln c6) (.slice (some ⟨b3,o3,none⟩) N c3) w wr.heap.size x ((wr.alloc (.cells #[.int .i64 x.1,.int .i64 x.2] 74)).alloc (.cells #[.slice la p.length lc] 28)):=⟨ck.below b6,by rw [Below.heap_alloc _ _ _ (by simp)];exact heap_alloc_new wr _⟩
   have HRow:=hid7 M5.row
   have hsz5:=M5.siz
   have bq0:=stepW_le HI.out.2.2.2.2.1 (g.p++g.l) x p hplen
   -- the step
   have HP:Hid (∀ v6 w6,w6.ownsRow B 28 1 v6 (R.length+1) (vs++[.slice la p.length lc])→Step ((wr.alloc (.cells #[.int .i64 x.1,.int .i64 x.2] 74)).alloc (.cells #[.slice la p.length lc] 28)) (.slice ra R.length rc) w6 v6→∃ va vc,v6=.slice va (R.length+1) vc∧(w6.cell? ⟨w.heap.size,0,none⟩=some V0∧w6.cell? ⟨w.heap.size,1,none⟩=some (.slice (some ⟨fb,fo,none⟩) fl c1)∧w6.cell? ⟨Fb,0,none⟩=some (.slice a5 pn c5)∧w6.cell? ⟨Fb,1,none⟩=some (.slice a4 rn c4)∧w6.cell? ⟨Fb,2,none⟩=some (.slice a6 ln c6)∧w6.cell? ⟨Fb,3,none⟩=some (.slice (some ⟨b3,o3,none⟩) N c3)∧w6.cell? ⟨wr.heap.size,0,none⟩=some (.int .i64 x.1)∧w6.cell? ⟨wr.heap.size,1,none⟩=some (.int .i64 x.2)) ∧
     Hid (Calls Tryz.prog 90 #[.agg #[V0,.slice (some ⟨fb,fo,none⟩) fl c1],.agg #[(.slice a5 pn c5),.slice a4 rn c4,(.slice a6 ln c6),.slice (some ⟨b3,o3,none⟩) N c3],.agg #[.int .i64 x.1,.int .i64 x.2],.slice la p.length lc] w6 fun e w7=>∃ qa ql qc,e=.returned (.tuple #[.slice qa ql qc,.int .i64 (stepW s.funcs (g.p++g.l) x p).1])∧(w7.cell? ⟨wr.heap.size,0,none⟩=some (.int .i64 x.1)∧w7.cell? ⟨wr.heap.size,1,none⟩=some (.int .i64 x.2)∧w7.cell? ⟨Fb,3,none⟩=some (.slice (some ⟨b3,o3,none⟩) N c3)) ∧
      Hid (Below w.heap.size w w7)∧((stepW s.funcs (g.p++g.l) x p).1=0→ql=(stepW s.funcs (g.p++g.l) x p).2.length∧Hid (DX s.funcs g V0 (some ⟨fb,fo,none⟩) c1 fl w.heap.size Fb (.slice a5 pn c5) (.slice a4 rn c4) (.slice a6 ln c6) (.slice (some ⟨b3,o3,none⟩) N c3) w wr.heap.size x w7∧DM N B W4 (.slice va (R.length+1) vc) (.slice oa D.length oc) (stepW s.funcs (g.p++g.l) x p).2 D (R++[p]) (vs++[.slice la p.length lc]) ds qa qc w7)))):=hid7 (by
    intro v6 w6 hr6 hs6
    obtain ⟨va,vc,rfl,_⟩:=row_form hr6
    have m6:=M5.note hr6 hs6
    have md:=Md.step M5.row hs6 (.inl rfl)
    have x6:DX s.funcs g V0 (some ⟨fb,fo,none⟩) c1 fl w.heap.size Fb (.slice a5 pn c5) (.slice a4 rn c4) (.slice a6 ln c6) (.slice (some ⟨b3,o3,none⟩) N c3) w wr.heap.size x w6:=⟨HX.out w6 m6.bel,box_md X5.x md⟩
    refine ⟨va,vc,rfl,⟨x6.k.s0,x6.k.s1,x6.k.f0,x6.k.f1,x6.k.f2,x6.k.f3,x6.xc.1,x6.xc.2⟩,hid7 ?_⟩
    have hq:=round_step (HI.out.1.i x (by rw [← hx];exact List.getElem_mem _)) HI.out.2.2.2.2.1 HI.out.2.2.2.2.2.2.1 HI.out.1.s HI.out.2.2.2.2.2.1 hplen w6 m6 (by rw [HFL.out] at x6;exact x6)
    rw [← HFL.out,← HN.out] at hq
    refine hq.mono fun e w7 ⟨qa,ql,qc,h1,h2,h3⟩=>⟨qa,ql,qc,h1,h2,hid7 h3.out.1.k.bel,fun h0=>⟨(h3.out.2 h0).1,hid7 ⟨h3.out.1,(h3.out.2 h0).2⟩⟩⟩)
   have HOne:Hid (∀ u ∈ [Value.slice la p.length lc],u.oneCell'=true):=hid7 (by simp [Value.oneCell'])
   have HLs:Hid (Lies ((wr.alloc (.cells #[.int .i64 x.1,.int .i64 x.2] 74)).alloc (.cells #[.slice la p.length lc] 28)) (.slice (some ⟨wr.heap.size+1,0,none⟩) 1 1) 1 [.slice la p.length lc]):=hid7 (.inr ⟨⟨wr.heap.size+1,0,none⟩,1,rfl,cells_new6 _ [.slice la p.length lc] 28 _ (World.size_alloc _ _)⟩)
   have HErr:Hid (∀ er W e,A0=(er,[])→Below w.heap.size w W→e=.returned (.tuple #[.slice none 0 0,.int .i64 er])→StacksEnd A0 w e W):=hid7 fun er W e h1 h2 h3=>by rw [h1];exact ⟨none,0,h3,.inl rfl,h2⟩
   have hlt3:=World.block_lt_of_cell? wr _ x0
   have hrl2:R.length≤256:=by omega
   have hRc:=hid7 hcnt
   have HDr:Hid (∀ w7 av ov qa qc q R vs,DM N B W4 av ov q D R vs ds qa qc w7→w7.ownsRow B 132 4 ov D.length ds∧B≤w7.heap.size):=hid7 fun w7 av ov qa qc q R vs h=>⟨h.orow,h.siz⟩
   have HW:Hid (∀ av ov q D R vs ds qa qc W,DM N B W4 av ov q D R vs ds qa qc W→Below w.heap.size w W):=hid7 fun av ov q D R vs ds qa qc W h=>(HX.out W h.bel).bel
   have HCode:=hid7 HN.out
   obtain ⟨n,A⟩:=x
   simp only at *
   clear M5 X5 b5 b6 ck hs hx w1 hI hcnt
   obtain ⟨q,hq⟩:∃ q,q=(stepW s.funcs (g.p++g.l) (n,A) p).2:=⟨_,rfl⟩
   obtain ⟨er,her⟩:∃ er,er=(stepW s.funcs (g.p++g.l) (n,A) p).1:=⟨_,rfl⟩
   rw [← hq] at HP P2 P3 P4 bq0
   rw [← her] at HP P1 P2 P3 P4
   have HP1:=hid7 P1
   have HP2:=hid7 P2
   have HP3:=hid7 P3
   have HP4:=hid7 P4
   clear P1 P2 P3 P4 hq her HDr
   rw [← HN.out] at HP4
   by_cases h0:er≠0
   ·have hne:(er != 0)=true:=by simpa using h0
    have HE:=hid7 (HP1.out h0)
    clear HP1 HP2 HP3 HP4
    generalize R.length=rl at *
    generalize p.length=pl at *
    go_wp2_with (first
     | (at_builtin;refine wpList_appN _ rfl _ _ 58 rfl elemN_sli B _ rl vs rfl HRow.out _ rfl 1 [.slice la pl lc] HLs.out rfl HOne.out (by unfold maxLen;omega) (by omega) hsz5 ?_;intro v6 w6 hr6 hs6;obtain ⟨va,vc,y6,⟨z0,z1,z2,z3,z4,z5,z6,z7⟩,hP⟩:=HP.out v6 w6 hr6 hs6;subst y6;clear hr6 hs6 HP HRow)
     | (go_at_call 90;refine hP.out.mono ?_;clear hP;rintro e w7 ⟨qa,ql,qc,rfl,⟨y0,y1,y2⟩,B7,K7⟩)
     | fail)
    go_ret2
    exact HErr.out er _ _ HE.out B7.out rfl
   ·have h0:er=0:=Decidable.byContradiction h0
    subst h0
    by_cases h48:n=48∨n=51
    ·have e1:dMust (opA g.code) n q D=0:=by unfold dMust;rw [if_neg (by omega)]
     have e2:dTurn n i q D=(q,D++[⟨i,q,[],false⟩]):=by unfold dTurn;rw [if_pos h48]
     rw [e1,e2] at HP3 HP4
     have HO:Hid (∀ w7 av (qa:Option Addr) qc R vs,DM N B W4 av (.slice oa D.length oc) q D R vs ds qa qc w7→(w7.alloc (.cells #[.int .i64 i,.slice qa q.length qc,.slice none 0 0,.bool false] 132)).ownsRow B 132 4 (.slice oa D.length oc) D.length ds∧B≤(w7.alloc (.cells #[.int .i64 i,.slice qa q.length qc,.slice none 0 0,.bool false] 132)).heap.size∧∀ v8 w8,w8.ownsRow B 132 4 v8 (D.length+1) (ds++[.int .i64 i,.slice qa q.length qc,.slice none 0 0,.bool false])→Step (w7.alloc (.cells #[.int .i64 i,.slice qa q.length qc,.slice none 0 0,.bool false] 132)) (.slice oa D.length oc) w8 v8→∃ ob ob',v8=.slice ob (D.length+1) ob'∧Hid (DM N B W4 av (.slice ob (D.length+1) ob') q (D++[⟨i,q,[],false⟩]) R vs (ds++[.int .i64 i,.slice qa q.length qc,.slice none 0 0,.bool false]) qa qc w8)):=hid7 fun w7 av qa qc R vs h=>by
      have h2:=h.below ((Below.refl _ w7).alloc (Nat.le_refl _) (.cells #[.int .i64 i,.slice qa q.length qc,.slice none 0 0,.bool false] 132))
      refine ⟨h2.orow,h2.siz,fun v8 w8 hr8 hs8=>?_⟩
      obtain ⟨ob,ob',rfl,_⟩:=row_form hr8
      exact ⟨ob,ob',rfl,hid7 (h2.open' hiN (by omega) hr8 hs8)⟩
     clear e1 e2 HP1 HP2 htok hRc hox
     by_cases hl:32<q.length
     ·have HE:=hid7 (HP3.out rfl rfl hl)
      have hl':(32:Int)<q.length:=by omega
      clear HP3 HP4 hl
      rcases h48 with rfl | rfl
      all_goals
       go_wp2_with (first
        | (at_builtin;refine wpList_appN _ rfl _ _ 58 rfl elemN_sli B _ R.length vs rfl HRow.out _ rfl 1 [.slice la p.length lc] HLs.out rfl HOne.out (by unfold maxLen;omega) (by omega) hsz5 ?_;intro v6 w6 hr6 hs6;obtain ⟨va,vc,y6,⟨z0,z1,z2,z3,z4,z5,z6,z7⟩,hP⟩:=HP.out v6 w6 hr6 hs6;subst y6;clear hr6 hs6 HP HRow)
        | (go_at_call 90;refine hP.out.mono ?_;clear hP;rintro e w7 ⟨qa,ql',qc,rfl,⟨y0,y1,y2⟩,B7,K7⟩;obtain ⟨eql,K8⟩:=K7 (by simp);clear K7;subst eql;obtain ⟨o7,s7,hO7⟩:=HO.out w7 _ qa qc _ _ K8.out.2;have O7:=hid7 o7;have C7:=hid7 hO7;clear o7 hO7 HO)
        | (at_builtin;refine wpList_appN _ rfl _ _ 128 rfl elemN_dbk B _ D.length ds rfl O7.out _ rfl 1 [.int .i64 i,.slice qa q.length qc,.slice none 0 0,.bool false] (.inr ⟨⟨_,0,none⟩,1,rfl,cells_new6 _ [.int .i64 i,.slice qa q.length qc,.slice none 0 0,.bool false] 132 _ rfl⟩) rfl (by simp [Value.oneCell']) (by unfold maxLen;omega) (by omega) s7 ?_;intro v8 w8 hr8 hs8;obtain ⟨ob,ob',y8,K9⟩:=C7.out v8 w8 hr8 hs8;subst y8;clear hr8 hs8 C7 O7)
        | fail)
       go_ret2
       exact HErr.out 32 _ _ HE.out (HW.out _ _ _ _ _ _ _ _ _ _ K9.out) rfl
     ·have hl':¬ (32:Int)<q.length:=by omega
      have HF:=hid7 (HP4.out rfl rfl hl)
      clear HP3 HP4 hl
      rcases h48 with rfl | rfl
      all_goals
       go_wp2_with (first
        | (at_builtin;refine wpList_appN _ rfl _ _ 58 rfl elemN_sli B _ R.length vs rfl HRow.out _ rfl 1 [.slice la p.length lc] HLs.out rfl HOne.out (by unfold maxLen;omega) (by omega) hsz5 ?_;intro v6 w6 hr6 hs6;obtain ⟨va,vc,y6,⟨z0,z1,z2,z3,z4,z5,z6,z7⟩,hP⟩:=HP.out v6 w6 hr6 hs6;subst y6;clear hr6 hs6 HP HRow)
        | (go_at_call 90;refine hP.out.mono ?_;clear hP;rintro e w7 ⟨qa,ql',qc,rfl,⟨y0,y1,y2⟩,B7,K7⟩;obtain ⟨eql,K8⟩:=K7 (by simp);clear K7;subst eql;obtain ⟨o7,s7,hO7⟩:=HO.out w7 _ qa qc _ _ K8.out.2;have O7:=hid7 o7;have C7:=hid7 hO7;clear o7 hO7 HO)
        | (at_builtin;refine wpList_appN _ rfl _ _ 128 rfl elemN_dbk B _ D.length ds rfl O7.out _ rfl 1 [.int .i64 i,.slice qa q.length qc,.slice none 0 0,.bool false] (.inr ⟨⟨_,0,none⟩,1,rfl,cells_new6 _ [.int .i64 i,.slice qa q.length qc,.slice none 0 0,.bool false] 132 _ rfl⟩) rfl (by simp [Value.oneCell']) (by unfold maxLen;omega) (by omega) s7 ?_;intro v8 w8 hr8 hs8;obtain ⟨ob,ob',y8,K9⟩:=C7.out v8 w8 hr8 hs8;subst y8;clear hr8 hs8 C7 O7)
        | fail)
       exact ⟨⟨i+1,q,_,R++[p],_,_,qa,qc,by go_num,by omega,rfl,hid7 (HF.out _ _ _ _ _ _ _ _ _ K9.out)⟩,by simp [intOf];omega⟩
    by_cases h49:n=49
    ·rcases List.eq_nil_or_concat D with e0 | ⟨M,d,e0⟩
     ·exact absurd (by rw [e0];rfl) (htok.1 (.inl h49))
     rw [List.concat_eq_append] at e0
     have hm:D.length=M.length+1:=by rw [e0];simp
     obtain ⟨ob,eob⟩:∃ ob,oa=some ⟨ob,0,none⟩:=by
      rcases hox with ⟨_,h0,_⟩ | ⟨ob,e,_⟩
      ·omega
      ·exact ⟨ob,e⟩
     subst eob
     have e1:dMust (opA g.code) n q D=0:=by unfold dMust;rw [if_neg (by omega)]
     have e2:dTurn n i q D=(d.en,M++[⟨d.at_,d.en,q,true⟩]):=by unfold dTurn;rw [if_neg h48,if_pos h49,e0];simp
     rw [e1,e2] at HP3 HP4
     have HO:Hid (∀ w7 av (qa:Option Addr) qc R vs,DM N B W4 av (.slice (some ⟨ob,0,none⟩) (M.length+1) oc) q D R vs ds qa qc w7→_):=hid7 fun w7 av qa qc R vs (h:DM N B W4 av (.slice (some ⟨ob,0,none⟩) (M.length+1) oc) q D R vs ds qa qc w7)=>DM.els (M:=M) (d:=d) (n:=M.length+1) (by simp) (by rw [e0] at h;exact h) (show q.length≤1000 by omega)
     rw [hm] at HP ⊢
     clear e1 e2 HP1 HP2 htok hRc hox e0 h48 hoc
     have hDl':M.length≤1000:=by omega
     clear hDl hm
     generalize M.length=m at *
     have g1:IntKind.i64.wrap (m:Int)=m:=by rw [IntKind.wrap_i64];omega
     have g2:(0:Int)≤m:=by omega
     have g3:(m:Int)<(m:Int)+1:=by omega
     subst h49
     by_cases hl:32<d.en.length
     ·have HE:=hid7 (HP3.out rfl rfl hl)
      have hl':(32:Int)<d.en.length:=by omega
      clear HP3 HP4 hl
      go_wp2_with (first
       | (at_builtin;refine wpList_appN _ rfl _ _ 58 rfl elemN_sli B _ R.length vs rfl HRow.out _ rfl 1 [.slice la p.length lc] HLs.out rfl HOne.out (by unfold maxLen;omega) (by omega) hsz5 ?_;intro v6 w6 hr6 hs6;obtain ⟨va,vc,y6,⟨z0,z1,z2,z3,z4,z5,z6,z7⟩,hP⟩:=HP.out v6 w6 hr6 hs6;subst y6;clear hr6 hs6 HP HRow)
       | (go_at_call 90;refine hP.out.mono ?_;clear hP;rintro e w7 ⟨qa,ql',qc,rfl,⟨y0,y1,y2⟩,B7,K7⟩;obtain ⟨eql,K8⟩:=K7 (by simp);clear K7;subst eql;obtain ⟨ea,ec,j1,⟨jv,j2⟩,⟨ju,j3⟩,jz,_,k9⟩:=HO.out w7 _ qa qc _ _ K8.out.2;have j4:=jz (m*4+2);have j5:=jz (m*4+3);have K9:=hid7 k9;clear k9 jz HO)
       | fail)
      go_ret2
      exact HErr.out 32 _ _ HE.out (HW.out _ _ _ _ _ _ _ _ _ _ K9.out) rfl
     ·have hl':¬ (32:Int)<d.en.length:=by omega
      have HF:=hid7 (HP4.out rfl rfl hl)
      clear HP3 HP4 hl
      go_wp2_with (first
       | (at_builtin;refine wpList_appN _ rfl _ _ 58 rfl elemN_sli B _ R.length vs rfl HRow.out _ rfl 1 [.slice la p.length lc] HLs.out rfl HOne.out (by unfold maxLen;omega) (by omega) hsz5 ?_;intro v6 w6 hr6 hs6;obtain ⟨va,vc,y6,⟨z0,z1,z2,z3,z4,z5,z6,z7⟩,hP⟩:=HP.out v6 w6 hr6 hs6;subst y6;clear hr6 hs6 HP HRow)
       | (go_at_call 90;refine hP.out.mono ?_;clear hP;rintro e w7 ⟨qa,ql',qc,rfl,⟨y0,y1,y2⟩,B7,K7⟩;obtain ⟨eql,K8⟩:=K7 (by simp);clear K7;subst eql;obtain ⟨ea,ec,j1,⟨jv,j2⟩,⟨ju,j3⟩,jz,_,k9⟩:=HO.out w7 _ qa qc _ _ K8.out.2;have j4:=jz (m*4+2);have j5:=jz (m*4+3);have K9:=hid7 k9;clear k9 jz HO)
       | fail)
      exact ⟨⟨i+1,d.en,_,R++[p],_,_,ea,ec,by go_num,by omega,rfl,hid7 (HF.out _ _ _ _ _ _ _ _ _ K9.out)⟩,by simp [intOf];omega⟩
    by_cases h50:n=50
    ·rcases List.eq_nil_or_concat D with e0 | ⟨M,d,e0⟩
     ·exact absurd (by rw [e0];rfl) (htok.1 (.inr h50))
     rw [List.concat_eq_append] at e0
     have hm:D.length=M.length+1:=by rw [e0];simp
     obtain ⟨ob,eob⟩:∃ ob,oa=some ⟨ob,0,none⟩:=by
      rcases hox with ⟨_,h0,_⟩ | ⟨ob,e,_⟩
      ·omega
      ·exact ⟨ob,e⟩
     subst eob
     have e1:dMust (opA g.code) n q D=mustS (opA g.code) D 50 q:=by unfold dMust;rw [if_pos (.inl h50),h50]
     have e2:dTurn n i q D=(q,M):=by unfold dTurn;rw [if_neg h48,if_neg h49,if_pos h50,e0];simp
     rw [e1] at HP2 HP3 HP4
     rw [e2] at HP3 HP4
     subst h50
     have HMu:Hid (∀ w7 av (qa:Option Addr) qc R vs,DX s.funcs g V0 (some ⟨fb,fo,none⟩) c1 fl w.heap.size Fb (.slice a5 pn c5) (.slice a4 rn c4) (.slice a6 ln c6) (.slice (some ⟨b3,o3,none⟩) N c3) w wr.heap.size (50,A) w7∧DM N B W4 av (.slice (some ⟨ob,0,none⟩) (M.length+1) oc) q D R vs ds qa qc w7→Calls Tryz.prog 91 #[.slice (some ⟨b3,o3,none⟩) N c3,.slice (some ⟨ob,0,none⟩) (M.length+1) oc,.agg #[.int .i64 50,.int .i64 A],.slice qa q.length qc] w7 fun e w8=>e=.returned (.int .i64 (mustS (opA g.code) D 50 q))∧w8.cell? ⟨wr.heap.size,0,none⟩=some (.int .i64 50)∧Hid (Below w.heap.size w w8)∧Hid (DM N B W4 av (.slice (some ⟨ob,0,none⟩) M.length oc) q M R vs (ds.take (M.length*4)) qa qc w8)):=hid7 fun w7 av qa qc R vs ⟨hX,hM⟩=>by
      rw [HN.out] at hX hM ⊢
      refine (round_must (.inl rfl) hm (by omega) (by rw [e0];simp) rfl (by omega) w7 hM hX).mono fun e w8 ⟨k1,k2,k3⟩=>⟨k1,k2,hid7 k3.out.1.k.bel,hid7 ?_⟩
      have:=k3.out.2
      rw [e0] at this
      exact DM.close (by simp) this
     have hoc':(M.length:Int)≤oc:=by omega
     rw [hm] at HP ⊢
     generalize mustS (opA g.code) D 50 q=mu at *
     clear e1 e2 HP1 htok hRc hox e0 h48 h49 hoc
     have hDl':M.length≤1000:=by omega
     clear hDl hm
     generalize hml:M.length=m at *
     clear hml
     have g1:IntKind.i64.wrap (m:Int)=m:=by rw [IntKind.wrap_i64];omega
     have g2:(0:Int)≤m:=by omega
     have g3:(m:Int)≤(m:Int)+1:=by omega
     by_cases hmu:mu=0
     ·subst hmu
      by_cases hl:32<q.length
      ·have HE:=hid7 (HP3.out rfl rfl hl)
       have hl':(32:Int)<q.length:=by omega
       clear HP2 HP3 HP4 hl
       go_wp2_with (first
        | (at_builtin;refine wpList_appN _ rfl _ _ 58 rfl elemN_sli B _ R.length vs rfl HRow.out _ rfl 1 [.slice la p.length lc] HLs.out rfl HOne.out (by unfold maxLen;omega) (by omega) hsz5 ?_;intro v6 w6 hr6 hs6;obtain ⟨va,vc,y6,⟨z0,z1,z2,z3,z4,z5,z6,z7⟩,hP⟩:=HP.out v6 w6 hr6 hs6;subst y6;clear hr6 hs6 HP HRow)
        | (go_at_call 90;refine hP.out.mono ?_;clear hP;rintro e w7 ⟨qa,ql',qc,rfl,⟨y0,y1,y2⟩,B7,K7⟩;obtain ⟨eql,K8⟩:=K7 (by simp);clear K7;subst eql;have MU:=hid7 (HMu.out w7 _ qa qc _ _ K8.out);clear HMu)
        | (go_at_call 91;refine MU.out.mono ?_;clear MU;rintro e w8 ⟨rfl,y8,B8,K9⟩)
        | fail)
       go_ret2
       exact HErr.out 32 _ _ HE.out B8.out rfl
      ·have hl':¬ (32:Int)<q.length:=by omega
       have HF:=hid7 (HP4.out rfl rfl hl)
       clear HP2 HP3 HP4 hl
       go_wp2_with (first
        | (at_builtin;refine wpList_appN _ rfl _ _ 58 rfl elemN_sli B _ R.length vs rfl HRow.out _ rfl 1 [.slice la p.length lc] HLs.out rfl HOne.out (by unfold maxLen;omega) (by omega) hsz5 ?_;intro v6 w6 hr6 hs6;obtain ⟨va,vc,y6,⟨z0,z1,z2,z3,z4,z5,z6,z7⟩,hP⟩:=HP.out v6 w6 hr6 hs6;subst y6;clear hr6 hs6 HP HRow)
        | (go_at_call 90;refine hP.out.mono ?_;clear hP;rintro e w7 ⟨qa,ql',qc,rfl,⟨y0,y1,y2⟩,B7,K7⟩;obtain ⟨eql,K8⟩:=K7 (by simp);clear K7;subst eql;have MU:=hid7 (HMu.out w7 _ qa qc _ _ K8.out);clear HMu)
        | (go_at_call 91;refine MU.out.mono ?_;clear MU;rintro e w8 ⟨rfl,y8,B8,K9⟩)
        | fail)
       exact ⟨⟨i+1,q,_,R++[p],_,_,qa,qc,by go_num,by omega,rfl,hid7 (HF.out _ _ _ _ _ _ _ _ _ K9.out)⟩,by simp [intOf];omega⟩
     ·have HE:=hid7 (HP2.out rfl hmu)
      have hne:(mu != 0)=true:=by simpa using hmu
      clear HP2 HP3 HP4
      go_wp2_with (first
       | (at_builtin;refine wpList_appN _ rfl _ _ 58 rfl elemN_sli B _ R.length vs rfl HRow.out _ rfl 1 [.slice la p.length lc] HLs.out rfl HOne.out (by unfold maxLen;omega) (by omega) hsz5 ?_;intro v6 w6 hr6 hs6;obtain ⟨va,vc,y6,⟨z0,z1,z2,z3,z4,z5,z6,z7⟩,hP⟩:=HP.out v6 w6 hr6 hs6;subst y6;clear hr6 hs6 HP HRow)
       | (go_at_call 90;refine hP.out.mono ?_;clear hP;rintro e w7 ⟨qa,ql',qc,rfl,⟨y0,y1,y2⟩,B7,K7⟩;obtain ⟨eql,K8⟩:=K7 (by simp);clear K7;subst eql;have MU:=hid7 (HMu.out w7 _ qa qc _ _ K8.out);clear HMu)
       | (go_at_call 91;refine MU.out.mono ?_;clear MU;rintro e w8 ⟨rfl,y8,B8,K9⟩)
       | fail)
      go_ret2
      exact HErr.out mu _ _ HE.out B8.out rfl
    by_cases h52:n=52
    ·have hD0:D≠[]:=fun e=>by have:=htok.2 h52;rw [e] at this;cases this
     obtain ⟨ob,eob⟩:∃ ob,oa=some ⟨ob,0,none⟩:=by
      rcases hox with ⟨_,h0,_⟩ | ⟨ob,e,_⟩
      ·exact absurd (List.eq_nil_of_length_eq_zero h0) hD0
      ·exact ⟨ob,e⟩
     subst eob
     have e1:dMust (opA g.code) n q D=mustS (opA g.code) D 52 q:=by unfold dMust;rw [if_pos (.inr h52),h52]
     have e2:dTurn n i q D=(q,D):=by unfold dTurn;rw [if_neg h48,if_neg h49,if_neg h50]
     rw [e1] at HP2 HP3 HP4
     rw [e2] at HP3 HP4
     subst h52
     have HMu:Hid (∀ w7 av (qa:Option Addr) qc R vs,DX s.funcs g V0 (some ⟨fb,fo,none⟩) c1 fl w.heap.size Fb (.slice a5 pn c5) (.slice a4 rn c4) (.slice a6 ln c6) (.slice (some ⟨b3,o3,none⟩) N c3) w wr.heap.size (52,A) w7∧DM N B W4 av (.slice (some ⟨ob,0,none⟩) D.length oc) q D R vs ds qa qc w7→Calls Tryz.prog 91 #[.slice (some ⟨b3,o3,none⟩) N c3,.slice (some ⟨ob,0,none⟩) D.length oc,.agg #[.int .i64 52,.int .i64 A],.slice qa q.length qc] w7 fun e w8=>e=.returned (.int .i64 (mustS (opA g.code) D 52 q))∧w8.cell? ⟨wr.heap.size,0,none⟩=some (.int .i64 52)∧Hid (Below w.heap.size w w8)∧Hid (DM N B W4 av (.slice (some ⟨ob,0,none⟩) D.length oc) q D R vs ds qa qc w8)):=hid7 fun w7 av qa qc R vs ⟨hX,hM⟩=>by
      rw [HN.out] at hX hM ⊢
      exact (round_must (.inr rfl) rfl (by omega) hD0 rfl (by omega) w7 hM hX).mono fun e w8 ⟨k1,k2,k3⟩=>⟨k1,k2,hid7 k3.out.1.k.bel,hid7 k3.out.2⟩
     generalize mustS (opA g.code) D 52 q=mu at *
     clear e1 e2 HP1 htok hRc hox hD0 h48 h49 h50 hoc
     by_cases hmu:mu=0
     ·subst hmu
      by_cases hl:32<q.length
      ·have HE:=hid7 (HP3.out rfl rfl hl)
       have hl':(32:Int)<q.length:=by omega
       clear HP2 HP3 HP4 hl
       go_wp2_with (first
        | (at_builtin;refine wpList_appN _ rfl _ _ 58 rfl elemN_sli B _ R.length vs rfl HRow.out _ rfl 1 [.slice la p.length lc] HLs.out rfl HOne.out (by unfold maxLen;omega) (by omega) hsz5 ?_;intro v6 w6 hr6 hs6;obtain ⟨va,vc,y6,⟨z0,z1,z2,z3,z4,z5,z6,z7⟩,hP⟩:=HP.out v6 w6 hr6 hs6;subst y6;clear hr6 hs6 HP HRow)
        | (go_at_call 90;refine hP.out.mono ?_;clear hP;rintro e w7 ⟨qa,ql',qc,rfl,⟨y0,y1,y2⟩,B7,K7⟩;obtain ⟨eql,K8⟩:=K7 (by simp);clear K7;subst eql;have MU:=hid7 (HMu.out w7 _ qa qc _ _ K8.out);clear HMu)
        | (go_at_call 91;refine MU.out.mono ?_;clear MU;rintro e w8 ⟨rfl,y8,B8,K9⟩)
        | fail)
       go_ret2
       exact HErr.out 32 _ _ HE.out B8.out rfl
      ·have hl':¬ (32:Int)<q.length:=by omega
       have HF:=hid7 (HP4.out rfl rfl hl)
       clear HP2 HP3 HP4 hl
       go_wp2_with (first
        | (at_builtin;refine wpList_appN _ rfl _ _ 58 rfl elemN_sli B _ R.length vs rfl HRow.out _ rfl 1 [.slice la p.length lc] HLs.out rfl HOne.out (by unfold maxLen;omega) (by omega) hsz5 ?_;intro v6 w6 hr6 hs6;obtain ⟨va,vc,y6,⟨z0,z1,z2,z3,z4,z5,z6,z7⟩,hP⟩:=HP.out v6 w6 hr6 hs6;subst y6;clear hr6 hs6 HP HRow)
        | (go_at_call 90;refine hP.out.mono ?_;clear hP;rintro e w7 ⟨qa,ql',qc,rfl,⟨y0,y1,y2⟩,B7,K7⟩;obtain ⟨eql,K8⟩:=K7 (by simp);clear K7;subst eql;have MU:=hid7 (HMu.out w7 _ qa qc _ _ K8.out);clear HMu)
        | (go_at_call 91;refine MU.out.mono ?_;clear MU;rintro e w8 ⟨rfl,y8,B8,K9⟩)
        | fail)
       exact ⟨⟨i+1,q,_,R++[p],_,_,qa,qc,by go_num,by omega,rfl,hid7 (HF.out _ _ _ _ _ _ _ _ _ K9.out)⟩,by simp [intOf];omega⟩
     ·have HE:=hid7 (HP2.out rfl hmu)
      have hne:(mu != 0)=true:=by simpa using hmu
      clear HP2 HP3 HP4
      go_wp2_with (first
       | (at_builtin;refine wpList_appN _ rfl _ _ 58 rfl elemN_sli B _ R.length vs rfl HRow.out _ rfl 1 [.slice la p.length lc] HLs.out rfl HOne.out (by unfold maxLen;omega) (by omega) hsz5 ?_;intro v6 w6 hr6 hs6;obtain ⟨va,vc,y6,⟨z0,z1,z2,z3,z4,z5,z6,z7⟩,hP⟩:=HP.out v6 w6 hr6 hs6;subst y6;clear hr6 hs6 HP HRow)
       | (go_at_call 90;refine hP.out.mono ?_;clear hP;rintro e w7 ⟨qa,ql',qc,rfl,⟨y0,y1,y2⟩,B7,K7⟩;obtain ⟨eql,K8⟩:=K7 (by simp);clear K7;subst eql;have MU:=hid7 (HMu.out w7 _ qa qc _ _ K8.out);clear HMu)
       | (go_at_call 91;refine MU.out.mono ?_;clear MU;rintro e w8 ⟨rfl,y8,B8,K9⟩)
       | fail)
      go_ret2
      exact HErr.out mu _ _ HE.out B8.out rfl
    ·have e1:dMust (opA g.code) n q D=0:=by unfold dMust;rw [if_neg (by omega)]
     have e2:dTurn n i q D=(q,D):=by unfold dTurn;rw [if_neg h48,if_neg h49,if_neg h50]
     rw [e1,e2] at HP3 HP4
     have t1:(n == 50)=false:=by simpa using h50
     have t2:(n == 52)=false:=by simpa using h52
     have t3:(n == 48)=false:=by simp;omega
     have t4:(n == 51)=false:=by simp;omega
     have t5:(n == 49)=false:=by simpa using h49
     clear e1 e2 h48 h49 h50 h52 HP1 HP2 htok hRc
     by_cases hl:32<q.length
     ·have HE:=hid7 (HP3.out rfl rfl hl)
      have hl':(32:Int)<q.length:=by omega
      clear HP3 HP4 hl
      go_wp2_with (first
       | (at_builtin;refine wpList_appN _ rfl _ _ 58 rfl elemN_sli B _ R.length vs rfl HRow.out _ rfl 1 [.slice la p.length lc] HLs.out rfl HOne.out (by unfold maxLen;omega) (by omega) hsz5 ?_;intro v6 w6 hr6 hs6;obtain ⟨va,vc,y6,⟨z0,z1,z2,z3,z4,z5,z6,z7⟩,hP⟩:=HP.out v6 w6 hr6 hs6;subst y6;clear hr6 hs6 HP HRow)
       | (go_at_call 90;refine hP.out.mono ?_;clear hP;rintro e w7 ⟨qa,ql',qc,rfl,⟨y0,y1,y2⟩,B7,K7⟩;obtain ⟨eql,K8⟩:=K7 (by simp);clear K7;subst eql)
       | fail)
      go_ret2
      exact HErr.out 32 _ _ HE.out B7.out rfl
     ·have hl':¬ (32:Int)<q.length:=by omega
      have HF:=hid7 (HP4.out rfl rfl hl)
      clear HP3 HP4 hl
      go_wp2_with (first
       | (at_builtin;refine wpList_appN _ rfl _ _ 58 rfl elemN_sli B _ R.length vs rfl HRow.out _ rfl 1 [.slice la p.length lc] HLs.out rfl HOne.out (by unfold maxLen;omega) (by omega) hsz5 ?_;intro v6 w6 hr6 hs6;obtain ⟨va,vc,y6,⟨z0,z1,z2,z3,z4,z5,z6,z7⟩,hP⟩:=HP.out v6 w6 hr6 hs6;subst y6;clear hr6 hs6 HP HRow)
       | (go_at_call 90;refine hP.out.mono ?_;clear hP;rintro e w7 ⟨qa,ql',qc,rfl,⟨y0,y1,y2⟩,B7,K7⟩;obtain ⟨eql,K8⟩:=K7 (by simp);clear K7;subst eql)
       | fail)
      exact ⟨⟨i+1,q,D,R++[p],_,_,qa,qc,by go_num,by omega,rfl,hid7 (HF.out _ _ _ _ _ _ _ _ _ K8.out.2)⟩,by simp [intOf];omega⟩
  ·have hiN':i=N:=by omega
   have hrun:A0=if alikeS p g.r=0 then (0,R++[p]) else (alikeS p g.r,[]):=by
    have:=hI.out.run
    rw [List.drop_eq_nil_of_le (by rw [← HN.out];omega),chkFrom] at this
    exact this
   have HAl:Hid (Calls Tryz.prog 92 #[.slice la p.length lc,.slice a4 rn c4] wr fun e w'=>e=.returned (.int .i64 (alikeS p g.r))∧∃ t,w'=wr.drewN t):=hid7 (by
    obtain ⟨_,⟨a,c,e,h⟩,_,_⟩:=ck.fn
    injection e with h1 _ _
    rw [← h1] at h
    exact ralike_any la a4 lc c4 p.length rn p g.r rfl HRN.out.symm (by omega) wr hI.out.m.nl.at' h)
   have HFin:Hid (∀ t,((wr.drewN t).alloc (.cells #[.slice la p.length lc] 28)).ownsRow B 28 1 (.slice ra R.length rc) R.length vs∧B≤((wr.drewN t).alloc (.cells #[.slice la p.length lc] 28)).heap.size∧∀ v6 w6,w6.ownsRow B 28 1 v6 (R.length+1) (vs++[.slice la p.length lc])→Step ((wr.drewN t).alloc (.cells #[.slice la p.length lc] 28)) (.slice ra R.length rc) w6 v6→∃ va vc,v6=.slice va (R.length+1) vc∧Hid (alikeS p g.r=0→StacksEnd A0 w (.returned (.tuple #[.slice va (R.length+1) vc,.int .i64 0])) w6)):=hid7 fun t=>by
    have m5:=hI.out.m.below ((below_draws2 (Below.refl _ wr) t).alloc (Nat.le_refl _) (.cells #[.slice la p.length lc] 28))
    refine ⟨m5.row,m5.siz,fun v6 w6 hr6 hs6=>?_⟩
    obtain ⟨va,vc,rfl,_⟩:=row_form hr6
    have m6:=m5.note hr6 hs6
    refine ⟨va,vc,rfl,hid7 fun h0=>?_⟩
    rw [hrun,if_pos h0]
    have hBw:w.heap.size≤B:=by rw [HB.out];exact K4.out.bel.size
    exact ⟨va,vc,by simp,(sl_of_row hr6 m6.rw').low hBw,(HX.out w6 m6.bel).bel⟩
   have HErr:Hid (∀ W e,alikeS p g.r≠0→Below w.heap.size w W→e=.returned (.tuple #[.slice none 0 0,.int .i64 (alikeS p g.r)])→StacksEnd A0 w e W):=hid7 fun W e h1 h2 h3=>by rw [hrun,if_neg h1];exact ⟨none,0,h3,.inl rfl,h2⟩
   have Hb:=hid7 ck.bel
   have hrl2:R.length≤256:=by omega
   have HOne:Hid (∀ u ∈ [Value.slice la p.length lc],u.oneCell'=true):=hid7 (by simp [Value.oneCell'])
   clear hI ck hrun hcnt hox
   generalize alikeS p g.r=er at *
   by_cases h0:er=0
   ·subst h0
    go_wp2_with (first
     | (go_at_call 92;refine HAl.out.mono ?_;clear HAl;rintro e w5 ⟨rfl,t,rfl⟩;obtain ⟨o5,s5,hF5⟩:=HFin.out t;have O5:=hid7 o5;have F5:=hid7 hF5;clear o5 hF5 HFin)
     | (at_builtin;refine wpList_appN _ rfl _ _ 58 rfl elemN_sli B _ R.length vs rfl O5.out _ rfl 1 [.slice la p.length lc] (.inr ⟨⟨_,0,none⟩,1,rfl,cells_new6 _ [.slice la p.length lc] 28 _ rfl⟩) rfl HOne.out (by unfold maxLen;omega) (by omega) s5 ?_;intro v6 w6 hr6 hs6;obtain ⟨va,vc,y6,K6⟩:=F5.out v6 w6 hr6 hs6;subst y6;clear hr6 hs6 F5 O5)
     | fail)
    go_ret2
    exact K6.out (by simp)
   ·have hne:(er != 0)=true:=by simpa using h0
    clear HFin
    go_wp2_with (first
     | (go_at_call 92;refine HAl.out.mono ?_;clear HAl;rintro e w5 ⟨rfl,t,rfl⟩)
     | fail)
    go_ret2
    exact HErr.out _ _ h0 (below_draws2 Hb.out t) rfl
set_option maxRecDepth 100000 in
set_option maxHeartbeats 2000000 in
theorem rcheck7_any (s:Scr)(V0 V1:Value)(f:Int)(w:World)(hs:ScIs w.cell? s V0 V1)(hsf:s.fits)(hI64:∀ f ∈ s.funcs,∀ x ∈ f.code,-9223372036854775808≤x.2∧x.2≤9223372036854775807):Calls Tryz.prog 57 #[.agg #[V0,V1],.int .i64 f] w (StacksEnd (checkS s f) w):=by
 obtain ⟨h0,⟨a1,c1,rfl,n1⟩⟩:=hs
 have hs:ScIs w.cell? s V0 (.slice a1 s.funcs.length c1):=⟨h0,⟨a1,c1,rfl,n1⟩⟩
 obtain ⟨a0,c0,rfl,n0⟩:=h0
 have b1:=(Below.refl _ w).alloc (Nat.le_refl _) (.cells #[.slice a0 s.consts.length c0,.slice a1 s.funcs.length c1] 27)
 have HR:Hid (Calls Tryz.prog 24 #[.agg #[.slice a0 s.consts.length c0,.slice a1 s.funcs.length c1]] (w.alloc (.cells #[.slice a0 s.consts.length c0,.slice a1 s.funcs.length c1] 27)) fun e w1=>e=.returned (.bool s.right)∧w1.cell? ⟨w.heap.size,1,none⟩=some (.slice a1 s.funcs.length c1)∧Hid (Below w.heap.size w w1)):=hid7 ((rright4_any s _ _ _ (hs.keep (below_keep b1)) hsf hI64).mono fun e w1 ⟨h1,h2⟩=>by
  have e2:(w.alloc (.cells #[.slice a0 s.consts.length c0,.slice a1 s.funcs.length c1] 27)).heap[w.heap.size]?=some (.cells #[.slice a0 s.consts.length c0,.slice a1 s.funcs.length c1] 27 (0,0)):=heap_alloc_new w _
  have e3:=(h2.block _ (blk_lt e2)).trans e2
  exact ⟨h1,by rw [Lib.cell_of_heap e3];rfl,hid7 (b1.trans (h2.mono b1.size))⟩)
 have hfl:=hsf.2.1
 by_cases hr:s.right=true
 ·rw [hr] at HR
  by_cases hf:0≤f∧f<s.funcs.length
  ·obtain ⟨k,rfl⟩:∃ k:Nat,f=k:=⟨f.toNat,by omega⟩
   have hk:k<s.funcs.length:=by omega
   have e1:checkS s k=stacksS s.funcs s.funcs[k]:=by rw [checkS,if_pos hr,if_pos hf,fnAt_get hk]
   rw [e1]
   by_cases hgood:goodS s.funcs[k].code=true
   ·exact rcheck_good s _ a1 c1 k w hs hsf hI64 hr hk _ rfl hgood
   ·have e2:stacksS s.funcs s.funcs[k]=(31,[]):=by rw [stacksS,if_neg hgood]
    rw [e2]
    obtain ⟨fb,fo,rfl⟩:=fs_some n1 (by omega)
    obtain ⟨v0,v1,v2,v3,q0,q1,q2,q3,hFn⟩:∃ v0 v1 v2 v3,w.cell? ⟨fb,fo+k*4,none⟩=some v0∧w.cell? ⟨fb,fo+k*4+1,none⟩=some v1∧w.cell? ⟨fb,fo+k*4+2,none⟩=some v2∧w.cell? ⟨fb,fo+k*4+3,none⟩=some v3∧FnIs w.cell? s.funcs[k] v0 v1 v2 v3:=by
     rcases n1 with h0 | ⟨b,off,e,h⟩
     ·rw [h0] at hk;cases hk
     ·cases e
      obtain ⟨v0,v1,v2,v3,h⟩:=h k hk
      exact ⟨v0,v1,v2,v3,h⟩
    obtain ⟨⟨a5,c5,rfl,_⟩,⟨a4,c4,rfl,_⟩,⟨a6,c6,rfl,_⟩,⟨a3,c3,rfl,n3⟩⟩:=hFn
    have hgc:=((right_facts hr).2.2 s.funcs[k] (List.getElem_mem _)).c
    have HF:Hid (∀ W,Below w.heap.size w W→W.cell? ⟨fb,fo+k*4,none⟩=some (.slice a5 s.funcs[k].p.length c5)∧W.cell? ⟨fb,fo+k*4+1,none⟩=some (.slice a4 s.funcs[k].r.length c4)∧W.cell? ⟨fb,fo+k*4+2,none⟩=some (.slice a6 s.funcs[k].l.length c6)∧W.cell? ⟨fb,fo+k*4+3,none⟩=some (.slice a3 s.funcs[k].code.length c3)∧Hid (∀ V,Below W.heap.size W V→Calls Tryz.prog 89 #[.slice a3 s.funcs[k].code.length c3] V fun e w4=>∃ mv er,e=.returned (.tuple #[mv,.int .i64 er])∧(er != 0)=true∧Hid (Below w.heap.size w w4))):=hid7 fun W hW=>by
     have kk:=below_keep hW
     refine ⟨kk _ _ q0,kk _ _ q1,kk _ _ q2,kk _ _ q3,hid7 fun V hV=>?_⟩
     have hwV:=hW.trans (hV.mono hW.size)
     refine (rmatch_any _ a3 c3 _ rfl (by omega) V (n3.keep (below_keep hwV))).mono fun e w4 ⟨m1,m2⟩=>?_
     rw [if_neg hgood] at m1
     exact ⟨_,_,m1,by decide,hid7 (hwV.trans (m2.mono hwV.size))⟩
    have HE:Hid (∀ w1 e,Below w.heap.size w w1→e=.returned (.tuple #[.slice none 0 0,.int .i64 31])→StacksEnd (31,[]) w e w1):=hid7 fun w1 e hb he=>⟨none,0,he,.inl rfl,hb⟩
    have hltF:fb<w.heap.size:=World.block_lt_of_cell? w _ q0
    clear hs n0 n1 n3 q0 q1 q2 q3 hgood e1 e2 hr b1 hsf hI64 hgc
    generalize s.funcs[k]=g at *
    generalize g.p.length=pn at *
    generalize g.r.length=rn at *
    generalize g.l.length=ln at *
    generalize g.code.length=N at *
    have hkk:(k:Int)<s.funcs.length:=by omega
    have hk0:(0:Int)≤k:=by omega
    clear hf hk
    generalize s.funcs.length=fl at *
    generalize s.consts.length=cl at *
    go_enter Tryz.func57,Tryz.ntmps57
    go_wp2_with (first
     | (go_at_call 24;refine HR.out.mono ?_;clear HR;rintro e w1 ⟨rfl,d1,B1⟩;obtain ⟨d2,d3,d4,d5,HM⟩:=HF.out w1 B1.out;clear HF)
     | (go_at_call 89;refine (HM.out _ ((Below.refl _ _).alloc (Nat.le_refl _) _)).mono ?_;clear HM;rintro e w4 ⟨mv,er,rfl,her,B4⟩)
     | fail)
    go_ret2
    exact HE.out _ _ B4.out rfl
  ·have e1:checkS s f=(1,[]):=by rw [checkS,if_pos hr,if_neg hf]
   rw [e1]
   have HE:Hid (∀ w1 e,Below w.heap.size w w1→e=.returned (.tuple #[.slice none 0 0,.int .i64 1])→StacksEnd (1,[]) w e w1):=hid7 fun w1 e hb he=>⟨none,0,he,.inl rfl,hb⟩
   clear hs n0 n1 b1 hr e1 hsf hI64
   by_cases h0:f<0
   ·generalize s.funcs.length=fl at HR hfl ⊢
    generalize s.consts.length=cl at HR ⊢
    go_enter Tryz.func57,Tryz.ntmps57
    go_wp2_with (first | (go_at_call 24;refine HR.out.mono ?_;clear HR;rintro e w1 ⟨rfl,d1,B1⟩) | fail)
    go_ret2
    exact HE.out _ _ B1.out rfl
   ·have t1:(s.funcs.length:Int)≤f:=by omega
    generalize s.funcs.length=fl at HR hfl t1 ⊢
    generalize s.consts.length=cl at HR ⊢
    go_enter Tryz.func57,Tryz.ntmps57
    go_wp2_with (first | (go_at_call 24;refine HR.out.mono ?_;clear HR;rintro e w1 ⟨rfl,d1,B1⟩) | fail)
    go_ret2
    exact HE.out _ _ B1.out rfl
 ·have hr':s.right=false:=by simpa using hr
  have e1:checkS s f=(30,[]):=by rw [checkS,if_neg hr]
  rw [e1]
  rw [hr'] at HR
  have HE:Hid (∀ w1 e,Below w.heap.size w w1→e=.returned (.tuple #[.slice none 0 0,.int .i64 30])→StacksEnd (30,[]) w e w1):=hid7 fun w1 e hb he=>⟨none,0,he,.inl rfl,hb⟩
  clear hs n0 n1 b1 hr hr' e1 hsf hI64
  generalize s.funcs.length=fl at HR hfl ⊢
  generalize s.consts.length=cl at HR ⊢
  go_enter Tryz.func57,Tryz.ntmps57
  go_wp2_with (first | (go_at_call 24;refine HR.out.mono ?_;clear HR;rintro e w1 ⟨rfl,d1,B1⟩) | fail)
  go_ret2
  exact HE.out _ _ B1.out rfl
def AllEndN (R:Int × List Int)(w:World)(e:Ending)(w':World):Prop:=AllEnd R w e w'∧FreshE w e
set_option maxRecDepth 100000 in
set_option maxHeartbeats 2000000 in
theorem rall7_new (s:Scr)(V0 V1:Value)(w:World)(hs:ScIs w.cell? s V0 V1)(hsf:s.fits)(hI64:∀ f ∈ s.funcs,∀ x ∈ f.code,-9223372036854775808≤x.2∧x.2≤9223372036854775807):Calls Tryz.prog 25 #[.agg #[V0,V1]] w (AllEndN (allS s) w):=by
 obtain ⟨⟨a0,c0,rfl,n0⟩,⟨a1,c1,rfl,n1⟩⟩:=hs
 have hs:ScIs w.cell? s (.slice a0 s.consts.length c0) (.slice a1 s.funcs.length c1):=⟨⟨a0,c0,rfl,n0⟩,⟨a1,c1,rfl,n1⟩⟩
 have b1:=(Below.refl _ w).alloc (Nat.le_refl _) (.cells #[.slice a0 s.consts.length c0,.slice a1 s.funcs.length c1] 27)
 have HR:Hid (Calls Tryz.prog 24 #[.agg #[.slice a0 s.consts.length c0,.slice a1 s.funcs.length c1]] (w.alloc (.cells #[.slice a0 s.consts.length c0,.slice a1 s.funcs.length c1] 27)) fun e w1=>e=.returned (.bool s.right)∧w1.cell? ⟨w.heap.size,0,none⟩=some (.slice a0 s.consts.length c0)∧w1.cell? ⟨w.heap.size,1,none⟩=some (.slice a1 s.funcs.length c1)∧Hid (Below w.heap.size w w1)∧Hid (w.heap.size<w1.heap.size)):=hid7 ((rright4_any s _ _ _ (hs.keep (below_keep b1)) hsf hI64).mono fun e w1 ⟨h1,h2⟩=>by
  have e2:(w.alloc (.cells #[.slice a0 s.consts.length c0,.slice a1 s.funcs.length c1] 27)).heap[w.heap.size]?=some (.cells #[.slice a0 s.consts.length c0,.slice a1 s.funcs.length c1] 27 (0,0)):=heap_alloc_new w _
  have e3:=(h2.block _ (blk_lt e2)).trans e2
  exact ⟨h1,by rw [Lib.cell_of_heap e3];rfl,by rw [Lib.cell_of_heap e3];rfl,hid7 (b1.trans (h2.mono b1.size)),hid7 (blk_lt e3)⟩)
 have hfl:=hsf.2.1
 by_cases hr:s.right=true
 ·obtain ⟨A0,hA0⟩:∃ A0,A0=allS s:=⟨_,rfl⟩
  rw [← hA0]
  have HA:Hid (A0=allFrom s.funcs s.funcs.length 0 []):=hid7 (by rw [hA0,allS,if_pos hr])
  obtain ⟨f1,f2,f3⟩:=right_facts hr
  have HS:Hid (∀ w1 k,k<s.funcs.length→Below w.heap.size w w1→Calls Tryz.prog 57 #[.agg #[.slice a0 s.consts.length c0,.slice a1 s.funcs.length c1],.int .i64 k] w1 fun e w2=>∃ a c,e=.returned (.tuple #[.slice a (stacksS s.funcs (fnAt s.funcs k)).2.length c,.int .i64 (stacksS s.funcs (fnAt s.funcs k)).1])∧Below w1.heap.size w1 w2∧Hid ((stacksS s.funcs (fnAt s.funcs k)).2.length≤1000∧(∀ r ∈ (stacksS s.funcs (fnAt s.funcs k)).2,r.length≤1000)∧SlAt w1.heap.size w2 a (stacksS s.funcs (fnAt s.funcs k)).2)):=hid7 fun w1 k hk hb=>(rcheck7_any s _ _ k w1 (hs.keep (below_keep hb)) hsf hI64).mono fun e w2 ⟨a,c,h1,h2,h3⟩=>by
   have e1:checkS s k=stacksS s.funcs (fnAt s.funcs k):=by rw [checkS,if_pos hr,if_pos (by omega)]
   rw [e1] at h1 h2
   obtain ⟨q1,q2⟩:=stacks_rows s.funcs (fnAt s.funcs k)
   have hc:=(f3 (fnAt s.funcs k) (by rw [← fnAt_get hk];exact List.getElem_mem _)).c
   exact ⟨a,c,h1,h3,hid7 ⟨by omega,fun r hr=>(by have:=q1 r hr;omega),h2⟩⟩
  rw [hr] at HR
  have hNext:Hid (∀ k m acc,k+(m+1)=s.funcs.length→A0=allFrom s.funcs (m+1) k acc→A0=if (stacksS s.funcs (fnAt s.funcs k)).1=0 then allFrom s.funcs m (k+1) (acc++[((longS (stacksS s.funcs (fnAt s.funcs k)).2 (stacksS s.funcs (fnAt s.funcs k)).2.length:Nat):Int)]) else ((stacksS s.funcs (fnAt s.funcs k)).1,[])):=hid7 fun k m acc _ h=>by rw [h,allFrom]
  clear hs n0 n1 b1 hr hA0 f3 hI64
  obtain ⟨fs,hfs⟩:∃ fs,fs=s.funcs:=⟨_,rfl⟩
  rw [← hfs] at HR HA HS hfl f1 f2 hNext ⊢
  obtain ⟨fl,hfll⟩:∃ fl,fl=fs.length:=⟨_,rfl⟩
  rw [← hfll] at HR HA HS hfl f1 f2 hNext ⊢
  clear hfs hfll hfl hsf
  generalize s.consts.length=cl at HR HS ⊢
  go_enter Tryz.func25,Tryz.ntmps25
  go_wp2_with (first | (go_at_call 24;refine HR.out.mono ?_;clear HR;rintro e w1 ⟨rfl,d0,d1,B1,l1⟩) | fail)
  go_loopw [4,5] (fun mv iv wr=>∃ (k:Nat) (acc:List Int),iv=.int .i64 k∧k≤fl∧Hid (acc.length=k)∧Hid (A0=allFrom fs (fl - k) k acc)∧wr.ownsRow w1.heap.size 3 1 mv acc.length (cellsN acc)∧Below w1.heap.size w1 wr) (fun _ iv _=>fl - (intOf iv).toNat)
  case atStart=>exact ⟨0,[],rfl,Nat.zero_le _,hid7 rfl,HA,World.ownsRow_nil _ _ _ _,Below.refl _ _⟩
  case round =>
   obtain ⟨k,acc,rfl,hk,hal,hrun,hrow,hb⟩:=hrel
   have hr:=hid7 hrow
   obtain ⟨ra,rc,eav,hrc,_⟩:=row_form hrow
   subst eav
   clear hrow
   have bb:=hid7 (B1.out.trans (hb.mono B1.out.size))
   have d2:=(hb.cell (World.block_lt_of_cell? w1 _ d0)).trans d0
   have d3:=(hb.cell (World.block_lt_of_cell? w1 _ d1)).trans d1
   by_cases hkf:k<fl
   ·have hS:=hid7 (HS.out wr k hkf bb.out)
    have hrun2:=hid7 (hNext.out k (fl - (k+1)) acc (by omega) (by rw [show fl - (k+1)+1=fl - k by omega];exact hrun.out))
    generalize stacksS fs (fnAt fs k)=Q at hS hrun2
    obtain ⟨er,RR⟩:=Q
    simp only at hS hrun2
    clear hrun
    have hal2:=hal.out
    generalize hac:acc.length=al at hr hrc hal2
    by_cases her:er=0
    ·subst her
     have HE2:=hid7 (hrun2.out.trans (if_pos rfl))
     obtain ⟨lr,hlr⟩:∃ lr,lr=RR.length:=⟨_,rfl⟩
     rw [← hlr] at hS HE2
     have HLR:=hid7 hlr
     have HQ:Hid (∀ w4 (lg:Int),Below wr.heap.size wr w4→(w4.alloc (.cells #[.int .i64 lg] 3)).ownsRow w1.heap.size 3 1 (.slice ra al rc) al (cellsN acc)∧w1.heap.size≤w4.heap.size):=hid7 fun w4 lg hb4=>⟨World.ownsRow.alloc (row_keep7 hr.out hb4) _,Nat.le_trans hb.size hb4.size⟩
     have hal3:al≤16:=by omega
     have HAL:=hid7 (And.intro hal2 hac)
     clear hac hal2 hrun2 hlr
     go_wp2_with (first
      | (go_at_call 57;refine hS.out.mono ?_;clear hS;rintro e w4 ⟨a4,c4,rfl,b4,K4⟩)
      | fail)
     have hlr2:lr≤1000:=K4.out.1
     go_loopw [8,9] (fun nv jv wq=>∃ j:Nat,nv=.int .i64 (longS RR j:Nat)∧jv=.int .i64 j∧j≤lr∧wq=w4) (fun _ jv _=>lr - (intOf jv).toNat)
     case atStart=>exact ⟨0,rfl,rfl,Nat.zero_le _,rfl⟩
     case round =>
      obtain ⟨j,rfl,rfl,hj,rfl⟩:=hrel
      rename World=>wr_1
      by_cases hjl:j<lr
      ·have hle:=longS_le K4.out.2.1 j
       have HN:Hid (longS RR (j+1)=max (longS RR j) (RR.getD j []).length):=hid7 rfl
       have hjr:j<RR.length:=by rw [← HLR.out];exact hjl
       obtain ⟨b,e4,aj,cj,h1⟩:∃ b,a4=some ⟨b,0,none⟩∧∃ aj cj,wr_1.cell? ⟨b,j,none⟩=some (.slice aj RR[j].length cj):=by
        rcases K4.out.2.2 with h0 | ⟨b,e,hc⟩
        ·rw [h0] at hjr;cases hjr
        ·obtain ⟨aj,cj,h1,_⟩:=hc j hjr
         exact ⟨b,e,aj,cj,h1⟩
       subst e4
       have e1:RR[j].length=(RR.getD j []).length:=by rw [List.getD_eq_getElem?_getD,List.getElem?_eq_getElem hjr];rfl
       have hr2:(RR.getD j []).length≤1000:=by rw [← e1];exact K4.out.2.1 _ (List.getElem_mem _)
       rw [e1] at h1
       clear e1
       generalize (RR.getD j []).length=r at h1 HN hr2
       generalize longS RR j=d at HN hle ⊢
       go_wp2
       refine ⟨⟨j+1,?_,by go_num,by omega,by trivial⟩,by simp [intOf];omega⟩
       rw [HN.out]
       congr 1
       omega
      ·have hjl:j=lr:=by omega
       subst hjl
       have hle:=longS_le K4.out.2.1 j
       generalize longS RR j=lg at HE2 hle ⊢
       obtain ⟨R4,s4⟩:=HQ.out _ (lg:Int) b4
       have R4:=hid7 R4
       go_wp2_with (at_builtin;refine wpList_appN _ rfl _ _ 28 rfl elemN_int w1.heap.size _ al (cellsN acc) rfl R4.out _ rfl 1 [.int .i64 (lg:Int)] (.inr ⟨⟨_,0,none⟩,1,rfl,cells_new6 _ [.int .i64 (lg:Int)] 3 _ rfl⟩) rfl (by simp [Value.oneCell']) (by unfold maxLen;omega) (by omega) (by simp;omega) ?_;intro v' w6 hr6 hs6)
       have ball:=(Below.refl _ _).alloc (w:=wr_1) (Nat.le_refl _) (.cells #[.int .i64 (lg:Int)] 3)
       have b6:=hs6.below (B:=w1.heap.size) (by simp;omega) (fun g e=>(R4.out.lt g e).1)
       refine ⟨⟨k+1,acc++[(lg:Int)],by go_num,by omega,hid7 (by rw [List.length_append,hal.out];rfl),HE2,?_,?_⟩,by simp [intOf];omega⟩
       ·rw [List.length_append,List.length_singleton,HAL.out.2,show cellsN (acc++[(lg:Int)])=cellsN acc++[.int .i64 (lg:Int)] by simp [cellsN]]
        exact hr6
       ·exact ((hb.trans (b4.mono hb.size)).trans (ball.mono s4)).trans b6
    ·have hne:(er != 0)=true:=by simpa using her
     have HE2:=hid7 (hrun2.out.trans (if_neg her))
     clear hac hal2 hal hrun2
     go_wp2_with (first | (go_at_call 57;refine hS.out.mono ?_;clear hS;rintro e w4 ⟨a4,c4,rfl,b4,hG⟩) | fail)
     go_ret2
     exact ⟨⟨none,0,by rw [HE2.out];rfl,by rw [HE2.out];exact .inl rfl,bb.out.trans (b4.mono bb.out.size)⟩,fresh_nil _ _ _ _⟩
   ·have hkf:k=fl:=by omega
    have HE2:Hid (A0=(0,acc)):=hid7 (by have:=hrun.out;rw [hkf,Nat.sub_self,allFrom] at this;exact this)
    clear hrun
    go_wp2
    go_ret2
    refine ⟨⟨ra,rc,by rw [HE2.out];rfl,?_,bb.out⟩,fresh_row hr.out B1.out.size⟩
    rw [HE2.out]
    exact (ns_in_row hr.out).at'
 ·have hr':s.right=false:=by simpa using hr
  have e1:allS s=(30,[]):=by rw [allS,if_neg hr]
  rw [e1]
  rw [hr'] at HR
  have HE:Hid (∀ w1 e,Below w.heap.size w w1→e=.returned (.tuple #[.slice none 0 0,.int .i64 30])→AllEndN (30,[]) w e w1):=hid7 fun w1 e hb he=>⟨⟨none,0,he,.inl rfl,hb⟩,by rw [he];exact fresh_nil _ _ _ _⟩
  clear hs n0 n1 b1 hr hr' e1 hsf hI64
  generalize s.funcs.length=fl at HR hfl ⊢
  generalize s.consts.length=cl at HR ⊢
  go_enter Tryz.func25,Tryz.ntmps25
  go_wp2_with (first | (go_at_call 24;refine HR.out.mono ?_;clear HR;rintro e w1 ⟨rfl,d0,d1,B1,l1⟩) | fail)
  go_ret2
  exact HE.out _ _ B1.out rfl
end Go.Proofs.YtpmlnkjamhelnaaGreat
