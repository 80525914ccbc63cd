/- types.stacks: the stacks of a function of functions that may be. types.Check of any script. types.All of any script. code.cloneFunc. code.Clone of any script. -/
import Derived.Test.YtpmlnkjamhelnaaGreatST
import Derived.Test.YtpmlnkjamhelnaaGreatXE
import Derived.Test.YtpmlnkjamhelnaaGreatFeeds
import Derived.Deep.RegionHeld3
namespace Go.Proofs.YtpmlnkjamhelnaaGreat
open Go.RowKit Go.Shelf
structure StI (fs:List Fn)(g:Fn)(A0:Int × List (List Int))(fv sv:Value)(wb:Nat)(W4:World)(av:Value)(i:Nat)(p:List Int)(L:List OB)(R:List (List Int))(vs:List Value)(a:Option Addr)(c:Nat)(la:Option Addr)(lc:Nat)(bs:List Nat)(W:World):Prop where
 st:WStA wb fv sv p L a c la lc bs W
 row:W.ownsRow (wb+1) 28 1 av R.length vs
 rw':RwI wb W vs R
 bel:Below wb W4 W
 len:p.length≤32
 obs:OBs L
 goes:Goes L (stk (opA g.code) i)
 cnt:R.length=i
 run:A0=chkFrom fs (g.p++g.l) g.r (g.code.drop i) p L R
def SlAt (B:Nat)(W:World)(a:Option Addr)(R:List (List Int)):Prop:=R=[]∨∃ b,a=some ⟨b,0,none⟩∧∀ j (h:j<R.length),∃ aj cj,W.cell? ⟨b,j,none⟩=some (.slice aj R[j].length cj)∧NsIn B W aj R[j]∧R[j].length≤cj
def stacksS (fs:List Fn)(g:Fn):Int × List (List Int):=if goodS g.code=true then chkFrom fs (g.p++g.l) g.r g.code [] [] [] else (31,[])
def StacksEnd (R:Int × List (List Int))(w:World)(e:Ending)(w':World):Prop:=∃ a c,e=.returned (.tuple #[.slice a R.2.length c,.int .i64 R.1])∧SlAt w.heap.size w' a R.2∧Below w.heap.size w w'
theorem SlAt.low {B B':Nat}{W:World}{a:Option Addr}{R:List (List Int)}(h:SlAt B W a R)(hB:B'≤B):SlAt B' W a R:=by
 rcases h with h | ⟨b,e,h⟩
 ·exact .inl h
 ·refine .inr ⟨b,e,fun j hj=>?_⟩
  obtain ⟨aj,cj,h1,h2⟩:=h j hj
  exact ⟨aj,cj,h1,h2.1.low hB,h2.2⟩
theorem sl_of_row {B:Nat}{W:World}{base n:Nat}{a:Option Addr}{c:Nat}{vs:List Value}{R:List (List Int)}(h:W.ownsRow base 28 1 (.slice a n c) n vs)(hR:RwI B W vs R):SlAt B W a R:=by
 obtain ⟨_,_,e,_,_,hx⟩:=row_form h
 cases e
 rcases hx with ⟨_,h0,_⟩ | ⟨g,rfl,hg,_,hcell⟩
 ·have hl:=h.1
  rw [hR.1,h0] at hl
  exact .inl (List.eq_nil_of_length_eq_zero (by omega))
 ·refine .inr ⟨g,rfl,fun j hj=>?_⟩
  obtain ⟨aj,cj,h1,h2,h3⟩:=hR.2 j hj
  exact ⟨aj,cj,hcell j _ h1,h3,h2⟩
set_option maxRecDepth 100000 in
set_option maxHeartbeats 4000000 in
theorem stacks_any (fs:List Fn)(fa:Option Addr)(fc k:Nat)(hk:k<fs.length)(hR:HeadsR fs)(bf:fs.length≤16)(g:Fn)(hg:fs[k]=g)(hgl:g.p.length+g.l.length≤16)(hgc:g.code.length≤256)(hgI:∀ x ∈ g.code,InsR fs (g.p++g.l) x)(w:World)(hF:FsAt w.cell? fa fs) :
  Calls Tryz.prog 80 #[.slice fa fs.length fc,.int .i64 k] w (StacksEnd (stacksS fs g) w):=by
 obtain ⟨fb,fo,rfl⟩:=fs_some hF (by omega)
 obtain ⟨v0,v1,v2,v3,q0,q1,q2,q3,hFn⟩:∃ v0 v1 v2 v3,w.cell? ⟨fb,fo+k*4,none⟩=some v0∧w.cell? ⟨fb,fo+k*4+1,none⟩=some v1∧w.cell? ⟨fb,fo+k*4+2,none⟩=some v2∧w.cell? ⟨fb,fo+k*4+3,none⟩=some v3∧FnIs w.cell? g v0 v1 v2 v3:=by
  rcases hF with h0 | ⟨b,off,e,h⟩
  ·rw [h0] at hk;cases hk
  ·cases e
   obtain ⟨v0,v1,v2,v3,h⟩:=h k hk
   rw [hg] at h
   exact ⟨v0,v1,v2,v3,h⟩
 have hFn':=hFn
 obtain ⟨⟨a0,c0,rfl,n0⟩,⟨a1,c1,rfl,n1⟩,⟨a2,c2,rfl,n2⟩,⟨a3,c3,rfl,n3⟩⟩:=hFn'
 have b1:=(Below.refl _ w).alloc (Nat.le_refl _) (.cells #[.slice a0 g.p.length c0,.slice a1 g.r.length c1,.slice a2 g.l.length c2,.slice a3 g.code.length c3] 49)
 have hM:=match7 g.code a3 c3 _ rfl (by omega) (w.alloc (.cells #[.slice a0 g.p.length c0,.slice a1 g.r.length c1,.slice a2 g.l.length c2,.slice a3 g.code.length c3] 49)) (n3.keep fun x v h=>(b1.cell (World.block_lt_of_cell? w x h)).trans h)
 have hltF:=World.block_lt_of_cell? w _ q0
 have hkk:(k:Int)<fs.length:=by omega
 by_cases hgood:goodS g.code=true
 ·have hst:=((good_iff g.code).1 hgood).1
  have hgs:=good_size hgood
  obtain ⟨A0,hA0⟩:∃ A0,A0=stacksS fs g:=⟨_,rfl⟩
  rw [← hA0]
  have hA1:A0=chkFrom fs (g.p++g.l) g.r g.code [] [] []:=by rw [hA0,stacksS,if_pos hgood]
  -- Match, then Slots, then the walk's box
  have HM:Hid (Calls Tryz.prog 111 #[.slice a3 g.code.length c3] (w.alloc (.cells #[.slice a0 g.p.length c0,.slice a1 g.r.length c1,.slice a2 g.l.length c2,.slice a3 g.code.length c3] 49)) fun e w2=>∃ mv,e=.returned (.tuple #[mv,.int .i64 0])∧(w2.cell? ⟨w.heap.size,0,none⟩=some (.slice a0 g.p.length c0)∧w2.cell? ⟨w.heap.size,1,none⟩=some (.slice a1 g.r.length c1)∧w2.cell? ⟨w.heap.size,2,none⟩=some (.slice a2 g.l.length c2)∧w2.cell? ⟨w.heap.size,3,none⟩=some (.slice a3 g.code.length c3)) ∧
    Hid (Calls Tryz.prog 86 #[.agg #[.slice a0 g.p.length c0,.slice a1 g.r.length c1,.slice a2 g.l.length c2,.slice a3 g.code.length c3]] w2 fun e w3=>∃ sa sc,e=.returned (.slice sa (g.p++g.l).length sc) ∧
     (∀ V,Below w3.heap.size w3 V→V.cell? ⟨w.heap.size,3,none⟩=some (.slice a3 g.code.length c3))∧Hid (w.heap.size<w3.heap.size) ∧
     Hid (Below w.heap.size w w3∧(g.p++g.l).length≤sc∧NsAt w3.cell? sa (g.p++g.l)∧IsAt w3.cell? a3 g.code∧NsAt w3.cell? a1 g.r∧w3.cell? ⟨w.heap.size,1,none⟩=some (.slice a1 g.r.length c1)∧FsAt w3.cell? (some ⟨fb,fo,none⟩) fs))):=hid7 (hM.mono fun e w2 ⟨h1,h2⟩=>by
   rw [if_pos hgood] at h1
   obtain ⟨gb,_,he,_⟩:=h1
   have e2:(w.alloc (.cells #[.slice a0 g.p.length c0,.slice a1 g.r.length c1,.slice a2 g.l.length c2,.slice a3 g.code.length c3] 49)).heap[w.heap.size]?=some (.cells #[.slice a0 g.p.length c0,.slice a1 g.r.length c1,.slice a2 g.l.length c2,.slice a3 g.code.length c3] 49 (0,0)):=heap_alloc_new w _
   have e3:=(h2.block _ (blk_lt e2)).trans e2
   have bw2:=b1.trans (h2.mono b1.size)
   refine ⟨_,he,(four_cell e3).1,hid7 ?_⟩
   have hk2:∀ x v,w.cell? x=some v→w2.cell? x=some v:=fun x v h=>(bw2.cell (World.block_lt_of_cell? w x h)).trans h
   refine (slots_any g _ _ _ _ w2 ⟨⟨_,_,rfl,n0.keep hk2⟩,⟨_,_,rfl,n1.keep hk2⟩,⟨_,_,rfl,n2.keep hk2⟩,⟨_,_,rfl,n3.keep hk2⟩⟩ ⟨by omega,by have:=(hR g (hg ▸ List.getElem_mem _)).2;omega,by omega,by omega⟩ (by omega)).mono fun e w3 ⟨⟨v,he3,hr3⟩,b3⟩=>?_
   obtain ⟨sa,sc,rfl,hsc,_⟩:=row_form hr3
   have bw3:=bw2.trans (b3.mono bw2.size)
   have hk3:∀ x v,w.cell? x=some v→w3.cell? x=some v:=fun x v h=>(bw3.cell (World.block_lt_of_cell? w x h)).trans h
   have e4:=(b3.block _ (blk_lt e3)).trans e3
   refine ⟨sa,sc,he3,fun V hV=>?_,hid7 (blk_lt e4),hid7 ⟨bw3,hsc,(ns_in_row hr3).at',n3.keep hk3,n1.keep hk3,(four_cell e4).1.2.1,hF.keep hk3⟩⟩
   exact (four_cell ((hV.block _ (blk_lt e4)).trans e4)).1.2.2.2)
  clear hM hFn n0 n1 n2 n3 hF
  obtain ⟨N,hN⟩:∃ N,N=g.code.length:=⟨_,rfl⟩
  rw [← hN] at q3 HM hgc
  have hsl:(g.p++g.l).length≤16:=by rw [List.length_append];omega
  have hrl:=(hR g (hg ▸ List.getElem_mem _)).2
  have HN:=hid7 hN
  clear hN
  generalize hsle:g.p++g.l=sl at HM hA1 hgI hsl
  have HSL:=hid7 hsle
  obtain ⟨sn,hsn⟩:∃ sn,sn=sl.length:=⟨_,rfl⟩
  rw [← hsn] at HM hsl
  have HSN:=hid7 hsn
  have HI:=hid7 (And.intro hgI (And.intro hst (And.intro hgs hA1)))
  obtain ⟨rn,hrn⟩:∃ rn,rn=g.r.length:=⟨_,rfl⟩
  rw [← hrn] at HM hrl q1
  have HRN:=hid7 hrn
  obtain ⟨fn,hfn⟩:∃ fn,fn=fs.length:=⟨_,rfl⟩
  rw [← hfn] at bf hkk ⊢
  have HFN:=hid7 hfn
  have HK:=hid7 (And.intro hR hk)
  clear hsle hsn hgI hst hgs hA1 hA0 hgood hrn b1 hg hfn hR hk
  generalize g.p.length=pl at q0 HM hgl
  generalize g.l.length=ll at q2 HM hgl
  go_enter Tryz.func80,Tryz.ntmps80
  go_wp2_with (first | (go_at_call 111;refine HM.out.mono ?_;clear HM;rintro e w2 ⟨mv,rfl,⟨d0,d1,d2,d3⟩,hS⟩) | (go_at_call 86;refine hS.out.mono ?_;clear hS;rintro e w3 ⟨sa,sc,rfl,hD,hw3,K3⟩;have dd3:=hD (w3.alloc (.cells #[.slice (some ⟨fb,fo,none⟩) fn fc,.slice sa sn sc,.slice none 0 0,.slice none 0 0] 155)) ((Below.refl _ _).alloc (Nat.le_refl _) _)) | fail)
  have hbw:=(Below.refl _ w3).alloc (Nat.le_refl _) (.cells #[.slice (some ⟨fb,fo,none⟩) fn fc,.slice sa sn sc,.slice none 0 0,.slice none 0 0] 155)
  have H4:Hid (WStA w3.heap.size (.slice (some ⟨fb,fo,none⟩) fn fc) (.slice sa sn sc) [] [] none 0 none 0 [] (w3.alloc (.cells #[.slice (some ⟨fb,fo,none⟩) fn fc,.slice sa sn sc,.slice none 0 0,.slice none 0 0] 155))):=hid7 ⟨heap_alloc_new w3 _,Nat.le_refl _,.inl ⟨rfl,.inl rfl⟩,World.ownsRow_nil _ _ _ _,rfl,List.nodup_nil,(fun b hb=>by cases hb),(fun i hi=>by cases hi)⟩
  have HB4:=hid7 hbw
  obtain ⟨wb,hwb⟩:∃ wb,wb=w3.heap.size:=⟨_,rfl⟩
  have HWB:=hid7 hwb
  have hlt4:wb<(w3.alloc (.cells #[.slice (some ⟨fb,fo,none⟩) fn fc,.slice sa sn sc,.slice none 0 0,.slice none 0 0] 155)).heap.size:=by rw [hwb];simp
  rw [← hwb] at H4 ⊢
  generalize w3.alloc (.cells #[.slice (some ⟨fb,fo,none⟩) fn fc,.slice sa sn sc,.slice none 0 0,.slice none 0 0] 155)=W4 at H4 HB4 dd3 hlt4 ⊢
  clear hbw hwb hD d0 d1 d2 d3
  -- what lies below the walk
  have HX:Hid (∀ V,Below wb W4 V→FsAt V.cell? (some ⟨fb,fo,none⟩) fs∧NsAt V.cell? sa sl∧IsAt V.cell? a3 g.code∧NsAt V.cell? a1 g.r∧V.cell? ⟨w.heap.size,1,none⟩=some (.slice a1 rn c1)∧Below w.heap.size w V):=hid7 fun V hV=>by
   obtain ⟨k1,k2,k3,k4,k5,k6,k7⟩:=K3.out
   have e:=HWB.out
   have hkv:∀ x v,w3.cell? x=some v→V.cell? x=some v:=fun x v h=>by
    have hlt:=World.block_lt_of_cell? w3 x h
    exact (hV.cell (by rw [e];exact hlt)).trans ((HB4.out.cell hlt).trans h)
   refine ⟨k7.keep hkv,k3.keep hkv,k4.keep hkv,k5.keep hkv,hkv _ _ k6,?_⟩
   have h1:=k1.trans (HB4.out.mono k1.size)
   exact h1.trans (hV.mono (by rw [e];exact k1.size))
  go_loopw [10,36] (fun av kv wr=>∃ (i:Nat) (p:List Int) (L:List OB) (R:List (List Int)) (vs:List Value) (a:Option Addr) (c:Nat) (la:Option Addr) (lc:Nat) (bs:List Nat),kv=.int .i64 i∧i≤N∧Hid (StI fs g A0 (.slice (some ⟨fb,fo,none⟩) fn fc) (.slice sa sn sc) wb W4 av i p L R vs a c la lc bs wr)) (fun _ kv _=>N - (intOf kv).toNat)
  case atStart=>exact ⟨0,[],[],[],[],none,0,none,0,[],rfl,Nat.zero_le _,hid7 ⟨H4.out,World.ownsRow_nil _ _ _ _,⟨rfl,fun j h=>by cases h⟩,Below.refl _ _,Nat.zero_le _,fun b hb=>(by cases hb),rfl,rfl,by rw [List.drop_zero];have:=HI.out.2.2.2;rw [← HSL.out] at this;exact this⟩⟩
  case round =>
   obtain ⟨i,p,L,R,vs,a,c,la,lc,bs,rfl,hi,hI⟩:=hrel
   obtain ⟨ra,rc,eav,hrc,_⟩:=row_form hI.out.row
   have hcnt:=hI.out.cnt
   have c2:=(four_cell hI.out.st.box).1.2.2.1
   have hplen:=hI.out.len
   by_cases hiN:i<N
   ·have hil:i<g.code.length:=by rw [← HN.out];exact hiN
    obtain ⟨x,hx⟩:∃ x,x=g.code[i]:=⟨_,rfl⟩
    have hop:opA g.code i=x.1:=by rw [hx];exact ops_at hil
    have hrun:A0=if (passW fs sl x p L).1=0 then chkFrom fs sl g.r (g.code.drop (i+1)) (passW fs sl x p L).2.1 (passW fs sl x p L).2.2 (R++[p]) else ((passW fs sl x p L).1,[]):=by
     have:=hI.out.run
     rw [List.drop_eq_getElem_cons hil,HSL.out,← hx,chkFrom] at this
     exact this
    obtain ⟨k1,k2,k3,k4,k5,k6⟩:=HX.out wr hI.out.bel
    have hlt:=blk_lt hI.out.st.box
    obtain ⟨b3,o3,e3,hcell⟩:∃ b3 o3,a3=some ⟨b3,o3,none⟩∧(wr.cell? ⟨b3,o3+i*2,none⟩=some (.int .i64 x.1)∧wr.cell? ⟨b3,o3+i*2+1,none⟩=some (.int .i64 x.2)):=by
     rcases k3 with h0 | ⟨b,off,e,h⟩
     ·rw [h0] at hil;cases hil
     ·exact ⟨b,off,e,by rw [hx];exact h i hil⟩
    subst e3
    obtain ⟨x0,x1⟩:=hcell
    have b5:=(Below.refl _ wr).alloc (Nat.le_refl _) (.cells #[.int .i64 x.1,.int .i64 x.2] 74)
    have b6:=b5.alloc (by simp) (.cells #[.slice a p.length c] 28)
    have HR:=hid7 (World.ownsRow.alloc (World.ownsRow.alloc hI.out.row (.cells #[.int .i64 x.1,.int .i64 x.2] 74)) (.cells #[.slice a p.length c] 28))
    have HP:Hid (∀ v' w6,w6.ownsRow (wb+1) 28 1 v' (R.length+1) (vs++[.slice a p.length c])→Step ((wr.alloc (.cells #[.int .i64 x.1,.int .i64 x.2] 74)).alloc (.cells #[.slice a p.length c] 28)) (.slice ra R.length rc) w6 v'→∃ va vc,v'=.slice va (R.length+1) vc∧w6.cell? ⟨wr.heap.size,0,none⟩=some (.int .i64 x.1)∧w6.cell? ⟨wr.heap.size,1,none⟩=some (.int .i64 x.2) ∧
      Hid (Calls Tryz.prog 112 #[.pointer (some ⟨wb,0,none⟩),.agg #[.int .i64 x.1,.int .i64 x.2]] w6 fun e w7=>e=.returned (.int .i64 (passW fs sl x p L).1)∧Hid (Below w.heap.size w w7∧((passW fs sl x p L).1=0→∃ a' c' la' lc' bs',StI fs g A0 (.slice (some ⟨fb,fo,none⟩) fn fc) (.slice sa sn sc) wb W4 (.slice va (R.length+1) vc) (i+1) (passW fs sl x p L).2.1 (passW fs sl x p L).2.2 (R++[p]) (vs++[.slice a p.length c]) a' c' la' lc' bs' w7)))):=hid7 (by
     intro v' w6 hr6 hs6
     obtain ⟨va,vc,rfl,hvc,_⟩:=row_form hr6
     have hbelow:=hs6.below (B:=wb+1) (by simp;omega) (fun g e=>by rw [← eav] at e;exact (HR.out.lt g e).1)
     have m6:Mr wr w6:=(Mr.below b6).trans (Mr.step HR.out (eav ▸ hs6))
     have h6:=hI.out.st.mr m6
     have bW6:Below wb W4 w6:=(hI.out.bel.trans (b6.mono (Nat.le_of_lt hlt))).trans (hbelow.mono (Nat.le_succ _))
     have e7:(wr.alloc (.cells #[.int .i64 x.1,.int .i64 x.2] 74)).heap[wr.heap.size]?=some (.cells #[.int .i64 x.1,.int .i64 x.2] 74 (0,0)):=heap_alloc_new wr _
     have m7:Mr (wr.alloc (.cells #[.int .i64 x.1,.int .i64 x.2] 74)) w6:=(Mr.below ((Below.refl _ _).alloc (Nat.le_refl _) _)).trans (Mr.step HR.out (eav ▸ hs6))
     have e8:=m7.2 _ _ _ _ (by decide) e7
     have hbox:w6.cell? ⟨wr.heap.size,0,none⟩=some (.int .i64 x.1)∧w6.cell? ⟨wr.heap.size,1,none⟩=some (.int .i64 x.2):=by simp [World.cell?,e8]
     refine ⟨va,vc,rfl,hbox.1,hbox.2,hid7 ?_⟩
     have hs:=HI.out.2.1 i hil
     rw [hop] at hs
     have hbl:L.length≤1000:=by rw [hI.out.goes.len];have:=HI.out.2.2.1 i (by omega);omega
     have h6':WStA wb (.slice (some ⟨fb,fo,none⟩) fs.length fc) (.slice sa sl.length sc) p L a c la lc bs w6:=by rw [← HFN.out,← HSN.out];exact h6
     have hp:=pass_any x (HI.out.1 x (by rw [hx];exact List.getElem_mem _)) (hI.out.goes.ok hs) (by have:=HSN.out;omega) (by have:=HFN.out;omega) (by omega) hI.out.obs hbl (Nat.le_trans (takenS_le HK.out.1 sl x) (by omega)) (by have:=K3.out.2.1;have:=HSN.out;omega) w6 h6' (fun V hV=>by obtain ⟨y1,y2,_⟩:=HX.out V (bW6.trans hV);exact ⟨y1,y2⟩) (fun l=>by have:=givenS_le HK.out.1 sl x (p.drop l);rw [List.length_drop] at this;omega)
     refine hp.mono fun e w7 ⟨r1,⟨a',c',la',lc',bs',r2⟩,r3,r4⟩=>⟨r1,hid7 ⟨(HX.out w7 (bW6.trans r3)).2.2.2.2.2,fun h0=>⟨a',c',la',lc',bs',?_⟩⟩⟩
     have hok:=pass_ok HK.out.1 hplen hI.out.obs hI.out.goes hs (i:Int) h0
     have rw6:RwI wb w6 (vs++[.slice a p.length c]) (R++[p]):=(hI.out.rw'.mv fun _ _ q=>q.mr m6).snoc hI.out.st.cap (hI.out.st.stk.mr m6)
     refine ⟨?_,?_,rw6.mv fun _ _ q=>q.mv r4,bW6.trans r3,hok.1,hok.2.1,?_,by simp [hcnt],?_⟩
     ·rw [← HFN.out,← HSN.out] at r2;exact r2
     ·rw [List.length_append,List.length_singleton];exact row_mv7 hr6 r4
     ·rw [stk,hop];exact hok.2.2
     ·rw [hrun,if_pos h0,HSL.out])
    have HE:Hid (∀ er,(passW fs sl x p L).1=er→er≠0→A0=(er,[])):=hid7 fun er h1 h2=>by rw [hrun,if_neg (by rw [h1];exact h2),h1]
    have HOne:Hid (∀ u ∈ [Value.slice a p.length c],u.oneCell'=true):=hid7 (by simp [Value.oneCell'])
    have HL:Hid (Lies ((wr.alloc (.cells #[.int .i64 x.1,.int .i64 x.2] 74)).alloc (.cells #[.slice a p.length c] 28)) (.slice (some ⟨wr.heap.size+1,0,none⟩) 1 1) 1 [.slice a p.length c]):=hid7 (.inr ⟨⟨wr.heap.size+1,0,none⟩,1,rfl,cells_new6 _ [.slice a p.length c] 28 _ (World.size_alloc _ _)⟩)
    have hlt3:=World.block_lt_of_cell? wr _ x0
    have hrl2:R.length≤256:=by omega
    rw [eav] at HR
    subst eav
    clear hI hrun hop hx k1 k2 k3 k4 k5 k6 b5 b6
    generalize hrl:R.length=rl at HR HP hrl2 hrc
    clear hrl hcnt
    generalize (passW fs sl x p L).1=er at HP HE
    generalize (passW fs sl x p L).2.1=p2 at HP
    generalize (passW fs sl x p L).2.2=L2 at HP
    generalize p.length=pl at c2 HP HR HOne HL hplen
    obtain ⟨xn,xA⟩:=x
    simp only at x0 x1 HP HR HL
    by_cases her:er=0
    ·subst her
     go_wp2_with (first
      | (at_builtin;refine wpList_appN _ rfl _ _ 58 rfl elemN_sli (wb+1) _ rl vs rfl HR.out _ rfl 1 [.slice a pl c] HL.out rfl HOne.out (by unfold maxLen;omega) (by omega) (by simp;omega) ?_;intro v' w6 hr6 hs6;obtain ⟨va,vc,y6,z0,z1,hPs⟩:=HP.out v' w6 hr6 hs6;subst y6;clear hr6 hs6)
      | (go_at_call 112;refine hPs.out.mono ?_;clear hPs;rintro e w7 ⟨rfl,K7⟩)
      | fail)
     obtain ⟨a',c',la',lc',bs',hN'⟩:=K7.out.2 trivial
     exact ⟨⟨i+1,p2,L2,R++[p],vs++[.slice a pl c],a',c',la',lc',bs',by go_num,by omega,hid7 hN'⟩,by simp [intOf];omega⟩
    ·have hne:(er != 0)=true:=by simpa using her
     have HE2:=hid7 (HE.out er rfl her)
     go_wp2_with (first
      | (at_builtin;refine wpList_appN _ rfl _ _ 58 rfl elemN_sli (wb+1) _ rl vs rfl HR.out _ rfl 1 [.slice a pl c] HL.out rfl HOne.out (by unfold maxLen;omega) (by omega) (by simp;omega) ?_;intro v' w6 hr6 hs6;obtain ⟨va,vc,y6,z0,z1,hPs⟩:=HP.out v' w6 hr6 hs6;subst y6;clear hr6 hs6)
      | (go_at_call 112;refine hPs.out.mono ?_;clear hPs;rintro e w7 ⟨rfl,K7⟩)
      | fail)
     go_ret2
     exact ⟨none,0,by rw [HE2.out];rfl,by rw [HE2.out];exact .inl rfl,K7.out.1⟩
   ·have hiN:i=N:=by omega
    have hrun:A0=if alikeS p g.r=0 then (0,R++[p]) else (alikeS p g.r,[]):=by
     have:=hI.out.run
     rw [List.drop_eq_nil_of_le (by rw [hiN,HN.out];exact Nat.le_refl _),chkFrom] at this
     exact this
    obtain ⟨k1,k2,k3,k4,k5,k6⟩:=HX.out wr hI.out.bel
    have hlt:=blk_lt hI.out.st.box
    have hltob:=World.block_lt_of_cell? wr _ k5
    have HA:Hid (Calls Tryz.prog 113 #[.slice a p.length c,.slice a1 rn c1] wr.drew fun e w9=>e=.returned (.int .i64 (alikeS p g.r))∧w9.cell? ⟨wb,2,none⟩=some (.slice a p.length c)∧wb<w9.heap.size∧Hid (Below w.heap.size w w9)∧Hid ((w9.alloc (.cells #[.slice a p.length c] 28)).ownsRow (wb+1) 28 1 (.slice ra R.length rc) R.length vs) ∧
      Hid (∀ v' w6,w6.ownsRow (wb+1) 28 1 v' (R.length+1) (vs++[.slice a p.length c])→Step (w9.alloc (.cells #[.slice a p.length c] 28)) (.slice ra R.length rc) w6 v'→∃ va vc,v'=.slice va (R.length+1) vc∧Hid (alikeS p g.r=0→StacksEnd A0 w (.returned (.tuple #[.slice va (R.length+1) vc,.int .i64 0])) w6))):=hid7 ((alike_any a a1 c c1 p.length rn p g.r rfl HRN.out.symm (by omega) (by omega) wr.drew hI.out.st.stk.at' k4).mono fun e w9 ⟨he,kk,h9⟩=>by
     subst h9
     have hrow9:(wr.drew.drewN kk).ownsRow (wb+1) 28 1 (.slice ra R.length rc) R.length vs:=eav ▸ hI.out.row
     have hr9:=World.ownsRow.alloc hrow9 (.cells #[.slice a p.length c] 28)
     refine ⟨he,c2,hlt,hid7 (below_draws2 k6.drew kk),hid7 hr9,hid7 fun v' w6 hr6 hs6=>?_⟩
     obtain ⟨va,vc,rfl,hvc,_⟩:=row_form hr6
     refine ⟨va,vc,rfl,hid7 fun h0=>?_⟩
     have ball:Below (wr.drew.drewN kk).heap.size (wr.drew.drewN kk) ((wr.drew.drewN kk).alloc (.cells #[.slice a p.length c] 28)):=(Below.refl _ _).alloc (Nat.le_refl _) _
     have m6:Mr wr w6:=by
      have q:=(Mr.below ball).trans (Mr.step hr9 hs6)
      exact ⟨q.1,q.2⟩
     have hbelow:=hs6.below (B:=wb+1) (by show wb+1≤((wr.drew.drewN kk).alloc (.cells #[.slice a p.length c] 28)).heap.size;rw [World.size_alloc];show wb+1≤wr.heap.size+1;omega) (fun g e=>(hr9.lt g e).1)
     have rw6:RwI wb w6 (vs++[.slice a p.length c]) (R++[p]):=(hI.out.rw'.mv fun _ _ q=>q.mr m6).snoc hI.out.st.cap (hI.out.st.stk.mr m6)
     have eA:A0=(0,R++[p]):=by rw [hrun,if_pos h0]
     rw [eA]
     refine ⟨va,vc,?_,(sl_of_row hr6 rw6).low (by rw [HWB.out];exact K3.out.1.size),?_⟩
     ·simp
     ·have hwb:w.heap.size≤wb:=by have:=HWB.out;have:=hw3.out;omega
      exact ((below_draws2 k6.drew kk).trans (ball.mono (by have:=k6.size;exact this))).trans (hbelow.mono (by omega)))
    have HE:Hid (∀ er,alikeS p g.r=er→er≠0→A0=(er,[])):=hid7 fun er h1 h2=>by rw [hrun,if_neg (by rw [h1];exact h2),h1]
    have hrl2:R.length≤256:=by omega
    subst eav
    clear hI hrun k1 k2 k3 k4 k6
    generalize hrl':R.length=rl at HA hrl2 hrc
    clear hrl' hcnt
    generalize alikeS p g.r=er at HA HE
    generalize p.length=pl at c2 HA hplen
    have HOne:Hid (∀ u ∈ [Value.slice a pl c],u.oneCell'=true):=hid7 (by simp [Value.oneCell'])
    by_cases her:er=0
    ·subst her
     clear HE
     go_wp2_with fail
     go_region_with (first | (go_at_call 113;refine HA.out.mono ?_;clear HA;rintro e w9 ⟨rfl,c9,l9,B9,R9,hQ⟩) | fail)
     all_goals
      go_wp2_with (first
       | (at_builtin;refine wpList_appN _ rfl _ _ 58 rfl elemN_sli (wb+1) _ rl vs rfl R9.out _ rfl 1 [.slice a pl c] (.inr ⟨⟨_,0,none⟩,1,rfl,cells_new6 _ [.slice a pl c] 28 _ rfl⟩) rfl HOne.out (by unfold maxLen;omega) (by omega) (by simp;omega) ?_;intro v' w6 hr6 hs6;obtain ⟨va,vc,y6,hZ⟩:=hQ.out v' w6 hr6 hs6;subst y6;clear hr6 hs6)
       | fail)
      go_ret2
      exact hZ.out trivial
    ·have hne:(er != 0)=true:=by simpa using her
     have HE2:=hid7 (HE.out er rfl her)
     go_wp2_with fail
     go_region_with (first | (go_at_call 113;refine HA.out.mono ?_;clear HA;rintro e w9 ⟨rfl,c9,l9,B9,R9,hQ⟩) | fail)
     all_goals
      go_wp2
      go_ret2
      exact ⟨none,0,by rw [HE2.out];rfl,by rw [HE2.out];exact .inl rfl,B9.out⟩
 ·have HS:Hid (∀ w' e,Below w.heap.size w w'→e=.returned (.tuple #[.slice none 0 0,.int .i64 31])→StacksEnd (stacksS fs g) w e w'):=hid7 fun w' e hb he=>by
   have e1:stacksS fs g=(31,[]):=by rw [stacksS,if_neg hgood]
   rw [e1]
   exact ⟨none,0,he,.inl rfl,hb⟩
  have HM:Hid (Calls Tryz.prog 111 #[.slice a3 g.code.length c3] (w.alloc (.cells #[.slice a0 g.p.length c0,.slice a1 g.r.length c1,.slice a2 g.l.length c2,.slice a3 g.code.length c3] 49)) fun e w'=>e=.returned (.tuple #[.slice none 0 0,.int .i64 31])∧Below w.heap.size w w'):=hid7 (hM.mono fun e w' ⟨h1,h2⟩=>⟨by rw [if_neg hgood] at h1;exact h1,b1.trans (h2.mono b1.size)⟩)
  clear hM hFn n0 n1 n2 n3 hF hgI hgood
  generalize g.code.length=cl at q3 HM hgc
  generalize g.p.length=pl at q0 HM hgl
  generalize g.l.length=ll at q2 HM hgl
  generalize g.r.length=rl at q1 HM
  go_enter Tryz.func80,Tryz.ntmps80
  go_wp2_with (first | (go_at_call 111;refine HM.out.mono ?_;clear HM;rintro e w2 ⟨rfl,b2⟩) | fail)
  go_ret2
  exact HS.out _ _ b2 rfl
structure FnR (fs:List Fn)(g:Fn):Prop where
 p:g.p.length≤8
 r:g.r.length≤8
 s:g.p.length+g.l.length≤16
 c:g.code.length≤256
 i:∀ x ∈ g.code,InsR fs (g.p++g.l) x
theorem right_facts {s:Scr}(h:s.right=true):s.funcs.length≤16∧1≤s.funcs.length∧∀ g ∈ s.funcs,FnR s.funcs g:=by
 simp only [Scr.right,Bool.and_eq_true,decide_eq_true_eq,List.all_eq_true] at h
 obtain ⟨⟨⟨⟨_,h1⟩,h2⟩,_⟩,h3⟩:=h
 refine ⟨h2,h1,fun g hg=>?_⟩
 have hg:=h3 g hg
 simp only [Fn.right,Fn.lists,Bool.and_eq_true,decide_eq_true_eq,List.all_eq_true] at hg
 obtain ⟨⟨⟨⟨⟨g1,g2⟩,g3⟩,g4⟩,_⟩,g5⟩:=hg
 refine ⟨g1,g2,g3,g4,fun x hx=>?_⟩
 have:=g5 x hx
 simp only [insOk,Bool.and_eq_true,decide_eq_true_eq] at this
 obtain ⟨⟨⟨_,_⟩,i3⟩,i4⟩:=this
 rw [InsR,List.length_append]
 refine ⟨fun hn=>?_,fun hn=>?_⟩
 ·have e:takesN x.1=3:=by rcases hn with hn | hn <;> rw [hn] <;> rfl
  rw [e] at i3 i4
  simp [boundsN] at i3 i4
  omega
 ·have e:takesN x.1=5:=by rw [hn];rfl
  rw [e] at i3 i4
  simp [boundsN] at i3 i4
  omega
def checkS (s:Scr)(f:Int):Int × List (List Int) :=
 if s.right=true then (if 0≤f∧f<s.funcs.length then stacksS s.funcs (fnAt s.funcs f) else (1,[])) else (30,[])
theorem fnAt_get {fs:List Fn}{k:Nat}(hk:k<fs.length):fs[k]=fnAt fs k:=by rw [fnAt,Int.toNat_natCast,List.getD_eq_getElem?_getD,List.getElem?_eq_getElem hk];rfl
theorem right_heads {s:Scr}(h:s.right=true):HeadsR s.funcs:=fun f hf=>⟨((right_facts h).2.2 f hf).p,((right_facts h).2.2 f hf).r⟩
theorem stacks_right {s:Scr}(h:s.right=true)(k:Nat)(hk:k<s.funcs.length)(fa:Option Addr)(fc:Nat)(w:World)(hF:FsAt w.cell? fa s.funcs):Calls Tryz.prog 80 #[.slice fa s.funcs.length fc,.int .i64 k] w (StacksEnd (stacksS s.funcs (fnAt s.funcs k)) w):=by
 obtain ⟨h1,_,h3⟩:=right_facts h
 have hg:=h3 (fnAt s.funcs k) (by rw [← fnAt_get hk];exact List.getElem_mem _)
 exact stacks_any s.funcs fa fc k hk (right_heads h) h1 (fnAt s.funcs k) (fnAt_get hk) hg.s hg.c hg.i w hF
def longS:List (List Int)→Nat→Nat
 | _,0=>0
 | R,k+1=>max (longS R k) (R.getD k []).length
theorem longS_le {R:List (List Int)}{m:Nat}(h:∀ r ∈ R,r.length≤m):∀ k,longS R k≤m
 | 0=>Nat.zero_le _
 | k+1=>by
  have:=longS_le h k
  rw [longS]
  rw [List.getD_eq_getElem?_getD]
  cases hk:R[k]? with
  | none=>simp;omega
  | some r=>have:=h r (List.mem_of_getElem? hk);simp;omega
set_option maxRecDepth 100000 in
set_option maxHeartbeats 1000000 in
theorem greatest_any (R:List (List Int))(a:Option Addr)(c n:Nat)(hn:R.length=n)(bn:n≤1000)(bR:∀ r ∈ R,r.length≤1000){B:Nat}(w:World)(h:SlAt B w a R):Calls Tryz.prog 81 #[.slice a n c] w fun e w'=>e=.returned (.int .i64 (longS R n:Nat))∧w'=w:=by
 go_enter Tryz.func81,Tryz.ntmps81
 go_wp2
 go_loopw [3,8] (fun mv iv wr=>∃ k:Nat,mv=.int .i64 (longS R k:Nat)∧iv=.int .i64 k∧k≤n∧wr=w) (fun _ iv _=>n - (intOf iv).toNat)
 case atStart=>exact ⟨0,rfl,rfl,Nat.zero_le _,rfl⟩
 case round =>
  obtain ⟨k,rfl,rfl,hk,rfl⟩:=hrel
  by_cases hkn:k<n
  ·have hle:=longS_le bR k
   have HN:Hid (longS R (k+1)=max (longS R k) (R.getD k []).length):=hid7 rfl
   rcases h with h0 | ⟨b,rfl,hc⟩
   ·rw [h0] at hn;simp at hn;omega
   obtain ⟨aj,cj,h1,_⟩:=hc k (by omega)
   have e1:R[k].length=(R.getD k []).length:=by rw [List.getD_eq_getElem?_getD,List.getElem?_eq_getElem (by omega)];rfl
   have hr:(R.getD k []).length≤1000:=by rw [← e1];exact bR _ (List.getElem_mem _)
   rw [e1] at h1
   clear hc e1
   generalize (R.getD k []).length=r at h1 HN hr
   generalize longS R k=d at HN hle ⊢
   go_wp2
   refine ⟨⟨k+1,?_,by go_num,by omega,by trivial⟩,by simp [intOf];omega⟩
   rw [HN.out]
   congr 1
   omega
  ·have hkn:k=n:=by omega
   subst hkn
   clear h
   go_wp2
   go_ret
   exact ⟨rfl,rfl⟩
theorem pass_le {fs:List Fn}{sl:List Int}{x:Int × Int}{p:List Int}{L:List OB}(h0:(passW fs sl x p L).1=0):(passW fs sl x p L).2.1.length≤32:=by
 unfold passW at h0 ⊢
 split at h0
 ·exact absurd h0 (by assumption)
 rename_i g1
 rw [if_neg g1]
 split at h0
 ·exact absurd h0 (by assumption)
 rename_i g2
 rw [if_neg g2]
 split at h0
 ·simp at h0
 rename_i g3
 rw [if_neg g3]
 show (turnW x.1 (stepW fs sl x p).2 L).2.1.length≤32
 omega
theorem chk_rows {fs:List Fn}{sl res:List Int}:∀ (cs:List (Int × Int)) (p:List Int) (L:List OB) (R:List (List Int)),p.length≤32→(∀ r ∈ R,r.length≤32)→(∀ r ∈ (chkFrom fs sl res cs p L R).2,r.length≤32)∧(chkFrom fs sl res cs p L R).2.length≤R.length+cs.length+1
 | [],p,L,R,hp,hR=>by
  rw [chkFrom]
  split
  ·refine ⟨fun r hr=>?_,by simp⟩
   rcases List.mem_append.1 hr with hr | hr
   ·exact hR r hr
   ·rw [List.mem_singleton] at hr;rw [hr];exact hp
  ·exact ⟨fun r hr=>(by cases hr),by simp⟩
 | x :: r,p,L,R,hp,hR=>by
  rw [chkFrom]
  split
  ·rename_i h0
   have:=chk_rows (fs:=fs) (sl:=sl) (res:=res) r (passW fs sl x p L).2.1 (passW fs sl x p L).2.2 (R++[p]) (pass_le h0) (fun q hq=>by
    rcases List.mem_append.1 hq with hq | hq
    ·exact hR q hq
    ·rw [List.mem_singleton] at hq;rw [hq];exact hp)
   refine ⟨this.1,?_⟩
   have h2:=this.2
   rw [List.length_append,List.length_singleton] at h2
   simp only [List.length_cons]
   omega
  ·exact ⟨fun r hr=>(by cases hr),by simp⟩
theorem stacks_rows (fs:List Fn)(g:Fn):(∀ r ∈ (stacksS fs g).2,r.length≤32)∧(stacksS fs g).2.length≤g.code.length+1:=by
 unfold stacksS
 split
 ·have:=chk_rows (fs:=fs) (sl:=g.p++g.l) (res:=g.r) g.code [] [] [] (Nat.zero_le _) (fun r hr=>by cases hr)
  simpa using this
 ·exact ⟨fun r hr=>(by cases hr),by simp⟩
def allFrom (fs:List Fn):Nat→Nat→List Int→Int × List Int
 | 0,_,acc=>(0,acc)
 | m+1,k,acc=>if (stacksS fs (fnAt fs k)).1=0 then allFrom fs m (k+1) (acc++[((longS (stacksS fs (fnAt fs k)).2 (stacksS fs (fnAt fs k)).2.length:Nat):Int)]) else ((stacksS fs (fnAt fs k)).1,[])
def allS (s:Scr):Int × List Int:=if s.right=true then allFrom s.funcs s.funcs.length 0 [] else (30,[])
def AllEnd (R:Int × List Int)(w:World)(e:Ending)(w':World):Prop:=∃ a c,e=.returned (.tuple #[.slice a R.2.length c,.int .i64 R.1])∧NsAt w'.cell? a R.2∧Below w.heap.size w w'
theorem row_keep7 {W W':World}{base n size:Nat}{e:TypeId}{v:Value}{xs:List Value}(h:W.ownsRow base e size v n xs)(hb:Below W.heap.size W W'):W'.ownsRow base e size v n xs:=by
 refine ⟨h.1,?_⟩
 rcases h.2 with h2 | ⟨g,cap,cur,e',hg,hh,r⟩
 ·exact .inl h2
 ·exact .inr ⟨g,cap,cur,e',hg,(hb.block g (blk_lt hh)).trans hh,r⟩
set_option maxRecDepth 100000 in
set_option maxHeartbeats 2000000 in
theorem all7_new (s:Scr)(V0 V1:Value)(w:World)(hs:ScIs w.cell? s V0 V1)(hsf:s.fits):Calls Tryz.prog 45 #[.agg #[V0,V1]] w fun e w'=>AllEnd (allS s) w e w'∧FreshE w e:=by
 obtain ⟨⟨a0,c0,rfl,n0⟩,⟨a1,c1,rfl,n1⟩⟩:=hs
 have b1:=(Below.refl _ w).alloc (Nat.le_refl _) (.cells #[.slice a0 s.consts.length c0,.slice a1 s.funcs.length c1] 27)
 have hk1:∀ x v,w.cell? x=some v→(w.alloc (.cells #[.slice a0 s.consts.length c0,.slice a1 s.funcs.length c1] 27)).cell? x=some v:=fun x v h=>(b1.cell (World.block_lt_of_cell? w x h)).trans h
 have hRt:=right4_any s _ _ (w.alloc (.cells #[.slice a0 s.consts.length c0,.slice a1 s.funcs.length c1] 27)) ⟨⟨a0,c0,rfl,n0.keep hk1⟩,⟨a1,c1,rfl,n1.keep hk1⟩⟩ hsf
 have HR:Hid (Calls Tryz.prog 30 #[.agg #[.slice a0 s.consts.length c0,.slice a1 s.funcs.length c1]] (w.alloc (.cells #[.slice a0 s.consts.length c0,.slice a1 s.funcs.length c1] 27)) fun e w1=>e=.returned (.bool s.right)∧w1.cell? ⟨w.heap.size,1,none⟩=some (.slice a1 s.funcs.length c1)∧Hid (Below w.heap.size w w1)∧Hid (w.heap.size<w1.heap.size)):=hid7 (hRt.mono fun e w1 ⟨h1,h2⟩=>by
  have e2:(w.alloc (.cells #[.slice a0 s.consts.length c0,.slice a1 s.funcs.length c1] 27)).heap[w.heap.size]?=some (.cells #[.slice a0 s.consts.length c0,.slice a1 s.funcs.length c1] 27 (0,0)):=heap_alloc_new w _
  have e3:=(h2.block _ (blk_lt e2)).trans e2
  exact ⟨h1,by simp [World.cell?,e3],hid7 (b1.trans (h2.mono b1.size)),hid7 (blk_lt e3)⟩)
 have hfl:=hsf.2.1
 by_cases hr:s.right=true
 ·obtain ⟨A0,hA0⟩:∃ A0,A0=allS s:=⟨_,rfl⟩
  rw [← hA0]
  have HA:Hid (A0=allFrom s.funcs s.funcs.length 0 []):=hid7 (by rw [hA0,allS,if_pos hr])
  obtain ⟨f1,f2,f3⟩:=right_facts hr
  have HS:Hid (∀ w1 k,k<s.funcs.length→Below w.heap.size w w1→Calls Tryz.prog 80 #[.slice a1 s.funcs.length c1,.int .i64 k] w1 fun e w2=>∃ a c,e=.returned (.tuple #[.slice a (stacksS s.funcs (fnAt s.funcs k)).2.length c,.int .i64 (stacksS s.funcs (fnAt s.funcs k)).1])∧Below w1.heap.size w1 w2∧Hid (Calls Tryz.prog 81 #[.slice a (stacksS s.funcs (fnAt s.funcs k)).2.length c] w2 fun e w3=>e=.returned (.int .i64 (longS (stacksS s.funcs (fnAt s.funcs k)).2 (stacksS s.funcs (fnAt s.funcs k)).2.length:Nat))∧w3=w2)):=hid7 fun w1 k hk hb=>(stacks_right hr k hk a1 c1 w1 (n1.keep fun x v h=>(hb.cell (World.block_lt_of_cell? w x h)).trans h)).mono fun e w2 ⟨a,c,h1,h2,h3⟩=>⟨a,c,h1,h3,hid7 (by
   obtain ⟨q1,q2⟩:=stacks_rows s.funcs (fnAt s.funcs k)
   have hc:=(f3 (fnAt s.funcs k) (by rw [← fnAt_get hk];exact List.getElem_mem _)).c
   exact greatest_any _ a c _ rfl (by omega) (fun r hr=>by have:=q1 r hr;omega) w2 h2)⟩
  rw [hr] at HR
  clear hRt hk1 n0 n1 b1 hr hA0 f3
  have hNext:Hid (∀ k m acc,k+(m+1)=s.funcs.length→A0=allFrom s.funcs (m+1) k acc→A0=if (stacksS s.funcs (fnAt s.funcs k)).1=0 then allFrom s.funcs m (k+1) (acc++[((longS (stacksS s.funcs (fnAt s.funcs k)).2 (stacksS s.funcs (fnAt s.funcs k)).2.length:Nat):Int)]) else ((stacksS s.funcs (fnAt s.funcs k)).1,[])):=hid7 fun k m acc _ h=>h
  obtain ⟨fs,hfs⟩:∃ fs,fs=s.funcs:=⟨_,rfl⟩
  rw [← hfs] at HR HA HS hfl f1 f2 hNext ⊢
  obtain ⟨fl,hfll⟩:∃ fl,fl=fs.length:=⟨_,rfl⟩
  rw [← hfll] at HR HA HS hfl f1 f2 hNext ⊢
  clear hfs hfll hfl hsf
  generalize s.consts.length=cl at HR ⊢
  go_enter Tryz.func45,Tryz.ntmps45
  go_wp2_with (first | (go_at_call 30;refine HR.out.mono ?_;clear HR;rintro e w1 ⟨rfl,d1,B1,l1⟩) | fail)
  go_loopw [2,13] (fun mv iv wr=>∃ (k:Nat) (acc:List Int),iv=.int .i64 k∧k≤fl∧Hid (acc.length=k)∧Hid (A0=allFrom fs (fl - k) k acc)∧wr.ownsRow w1.heap.size 3 1 mv acc.length (cellsN acc)∧Below w1.heap.size w1 wr) (fun _ iv _=>fl - (intOf iv).toNat)
  case atStart=>exact ⟨0,[],rfl,Nat.zero_le _,hid7 rfl,HA,World.ownsRow_nil _ _ _ _,Below.refl _ _⟩
  case round =>
   obtain ⟨k,acc,rfl,hk,hal,hrun,hrow,hb⟩:=hrel
   have hr:=hid7 hrow
   obtain ⟨ra,rc,eav,hrc,_⟩:=row_form hrow
   subst eav
   clear hrow
   have bb:=hid7 (B1.out.trans (hb.mono B1.out.size))
   have d2:=(hb.cell (World.block_lt_of_cell? w1 _ d1)).trans d1
   by_cases hkf:k<fl
   ·have hS:=hid7 (HS.out wr k hkf bb.out)
    have hrun2:=hid7 (hNext.out k (fl - (k+1)) acc (by omega) (by rw [show fl - (k+1)+1=fl - k by omega];exact hrun.out))
    generalize stacksS fs (fnAt fs k)=Q at hS hrun2
    obtain ⟨er,RR⟩:=Q
    simp only at hS hrun2
    generalize hlg:longS RR RR.length=lg at hS hrun2
    generalize hlr:RR.length=lr at hS
    clear hlg hlr hrun
    have hal2:=hal.out
    generalize hac:acc.length=al at hr hrc hal2
    by_cases her:er=0
    ·subst her
     have HE2:=hid7 (hrun2.out.trans (if_pos rfl))
     have HQ:Hid (∀ w4,Below wr.heap.size wr w4→(w4.alloc (.cells #[.int .i64 (lg:Int)] 3)).ownsRow w1.heap.size 3 1 (.slice ra al rc) al (cellsN acc)∧w1.heap.size≤w4.heap.size):=hid7 fun w4 hb4=>⟨World.ownsRow.alloc (row_keep7 hr.out hb4) _,Nat.le_trans hb.size hb4.size⟩
     have hal3:al≤16:=by omega
     have HAL:=hid7 (And.intro hal2 hac)
     clear hac hal2 hrun2
     go_wp2_with (first
      | (go_at_call 80;refine hS.out.mono ?_;clear hS;rintro e w4 ⟨a4,c4,rfl,b4,hG⟩;obtain ⟨R4,s4⟩:=HQ.out w4 b4;have R4:=hid7 R4)
      | (go_at_call 81;refine hG.out.mono ?_;clear hG;rintro e w5 ⟨rfl,w5e⟩;rw [w5e];clear w5e)
      | (at_builtin;refine wpList_appN _ rfl _ _ 28 rfl elemN_int w1.heap.size _ al (cellsN acc) rfl R4.out _ rfl 1 [.int .i64 (lg:Int)] (.inr ⟨⟨_,0,none⟩,1,rfl,cells_new6 _ [.int .i64 (lg:Int)] 3 _ rfl⟩) rfl (by simp [Value.oneCell']) (by unfold maxLen;omega) (by omega) (by simp;omega) ?_;intro v' w6 hr6 hs6)
      | fail)
     have ball:Below w4.heap.size w4 (w4.alloc (.cells #[.int .i64 (lg:Int)] 3)):=(Below.refl _ _).alloc (Nat.le_refl _) _
     have b6:=hs6.below (B:=w1.heap.size) (by simp;omega) (fun g e=>(R4.out.lt g e).1)
     refine ⟨⟨k+1,acc++[(lg:Int)],by go_num,by omega,hid7 (by rw [List.length_append,hal.out];rfl),hid7 (by rw [show fl - (k+1)=fl - (k+1) from rfl];exact HE2.out),?_,?_⟩,by simp [intOf];omega⟩
     ·rw [List.length_append,List.length_singleton,HAL.out.2,show cellsN (acc++[(lg:Int)])=cellsN acc++[.int .i64 (lg:Int)] by simp [cellsN]]
      exact hr6
     ·exact ((hb.trans (b4.mono hb.size)).trans (ball.mono s4)).trans b6
    ·have hne:(er != 0)=true:=by simpa using her
     have HE2:=hid7 (hrun2.out.trans (if_neg her))
     clear hac hal2 hal hrun2
     go_wp2_with (first | (go_at_call 80;refine hS.out.mono ?_;clear hS;rintro e w4 ⟨a4,c4,rfl,b4,hG⟩) | fail)
     go_ret2
     exact ⟨⟨none,0,by rw [HE2.out];rfl,by rw [HE2.out];exact .inl rfl,bb.out.trans (b4.mono bb.out.size)⟩,fresh_nil _ _ _ _⟩
   ·have hkf:k=fl:=by omega
    have HE2:Hid (A0=(0,acc)):=hid7 (by have:=hrun.out;rw [hkf,Nat.sub_self,allFrom] at this;exact this)
    clear hrun
    go_wp2
    go_ret2
    refine ⟨⟨ra,rc,by rw [HE2.out];rfl,?_,bb.out⟩,fresh_row hr.out B1.out.size⟩
    rw [HE2.out]
    exact (ns_in_row hr.out).at'
 ·have hr':s.right=false:=by simpa using hr
  have e1:allS s=(30,[]):=by rw [allS,if_neg hr]
  rw [e1]
  rw [hr'] at HR
  have HE:Hid (∀ w1 e,Below w.heap.size w w1→e=.returned (.tuple #[.slice none 0 0,.int .i64 30])→AllEnd (30,[]) w e w1):=hid7 fun w1 e hb he=>⟨none,0,he,.inl rfl,hb⟩
  clear hRt hk1 n0 n1 b1 hr hr' e1
  generalize s.funcs.length=fl at HR hfl ⊢
  generalize s.consts.length=cl at HR ⊢
  go_enter Tryz.func45,Tryz.ntmps45
  go_wp2_with (first | (go_at_call 30;refine HR.out.mono ?_;clear HR;rintro e w1 ⟨rfl,d1,B1,l1⟩) | fail)
  go_ret2
  exact ⟨HE.out _ _ B1.out rfl,fresh_nil _ _ _ _⟩
end Go.Proofs.YtpmlnkjamhelnaaGreat
namespace Go.Proofs.YtpmlnkjamhelnaaGreat
open Go.RowKit
def FnOwn (w:World)(base:Nat)(f:Fn)(u0 u1 u2 u3:Value):Prop:=w.ownsRow base 3 1 u0 f.p.length (cellsN f.p)∧w.ownsRow base 3 1 u1 f.r.length (cellsN f.r)∧w.ownsRow base 3 1 u2 f.l.length (cellsN f.l)∧w.ownsRow base 74 2 u3 f.code.length (cellsI f.code)
theorem FnOwn.below {w w':World}{base:Nat}{f:Fn}{u0 u1 u2 u3:Value}(h:FnOwn w base f u0 u1 u2 u3)(hb:Below w.heap.size w w'):FnOwn w' base f u0 u1 u2 u3:=⟨row_below2 h.1 hb,row_below2 h.2.1 hb,row_below2 h.2.2.1 hb,row_below2 h.2.2.2 hb⟩
def CloneFEnd (f:Fn)(w:World)(e:Ending)(w':World):Prop:=(∃ u0 u1 u2 u3,e=.returned (.agg #[u0,u1,u2,u3])∧FnOwn w' w.heap.size f u0 u1 u2 u3)∧Below w.heap.size w w'
theorem load_fn {w:World}{b:Nat}{x0 x1 x2 x3:Value}(h0:w.cell? ⟨b,0,none⟩=some x0)(h1:w.cell? ⟨b,1,none⟩=some x1)(h2:w.cell? ⟨b,2,none⟩=some x2)(h3:w.cell? ⟨b,3,none⟩=some x3):(loadVar 49 ⟨b,0,none⟩).run Tryz.prog w=.ok (.agg #[x0,x1,x2,x3]) w:=by
 simp [loadVar,go_sem,h0,h1,h2,h3]
def set4 (w:World)(b:Nat)(x0 x1 x2 x3:Value):World:=(((w.setCell ⟨b,0,none⟩ x0).setCell ⟨b,1,none⟩ x1).setCell ⟨b,2,none⟩ x2).setCell ⟨b,3,none⟩ x3
theorem set4_cells {w:World}{b:Nat}{y0 y1 y2 y3:Value}(x0 x1 x2 x3:Value)(h0:w.cell? ⟨b,0,none⟩=some y0)(h1:w.cell? ⟨b,1,none⟩=some y1)(h2:w.cell? ⟨b,2,none⟩=some y2)(h3:w.cell? ⟨b,3,none⟩=some y3) :
  (set4 w b x0 x1 x2 x3).cell? ⟨b,0,none⟩=some x0∧(set4 w b x0 x1 x2 x3).cell? ⟨b,1,none⟩=some x1∧(set4 w b x0 x1 x2 x3).cell? ⟨b,2,none⟩=some x2∧(set4 w b x0 x1 x2 x3).cell? ⟨b,3,none⟩=some x3:=by
 unfold set4
 refine ⟨?_,?_,?_,?_⟩
 ·rw [World.cell?_setCell_other _ _ _ _ (by simp),World.cell?_setCell_other _ _ _ _ (by simp),World.cell?_setCell_other _ _ _ _ (by simp)]
  exact World.cell?_setCell_same _ _ _ h0
 ·rw [World.cell?_setCell_other _ _ _ _ (by simp),World.cell?_setCell_other _ _ _ _ (by simp)]
  refine World.cell?_setCell_same _ _ _ (u:=y1) ?_
  rw [World.cell?_setCell_other _ _ _ _ (by simp)];exact h1
 ·rw [World.cell?_setCell_other _ _ _ _ (by simp)]
  refine World.cell?_setCell_same _ _ _ (u:=y2) ?_
  rw [World.cell?_setCell_other _ _ _ _ (by simp),World.cell?_setCell_other _ _ _ _ (by simp)];exact h2
 ·refine World.cell?_setCell_same _ _ _ (u:=y3) ?_
  rw [World.cell?_setCell_other _ _ _ _ (by simp),World.cell?_setCell_other _ _ _ _ (by simp),World.cell?_setCell_other _ _ _ _ (by simp)];exact h3
theorem set4_row {w:World}{b base n size:Nat}{e:TypeId}{v:Value}{xs:List Value}(x0 x1 x2 x3:Value)(h:w.ownsRow base e size v n xs)(hb:b<base):(set4 w b x0 x1 x2 x3).ownsRow base e size v n xs:=ownsRow_setCell_other' (ownsRow_setCell_other' (ownsRow_setCell_other' (ownsRow_setCell_other' h hb _) hb _) hb _) hb _
theorem set4_below {w0 w:World}{B b:Nat}(x0 x1 x2 x3:Value)(h:Below B w0 w)(hb:B≤b):Below B w0 (set4 w b x0 x1 x2 x3):=(((h.setCell (p:=⟨b,0,none⟩) hb _).setCell (p:=⟨b,1,none⟩) hb _).setCell (p:=⟨b,2,none⟩) hb _).setCell (p:=⟨b,3,none⟩) hb _
set_option maxRecDepth 100000 in
set_option maxHeartbeats 1000000 in
theorem cloneFunc_any (f:Fn)(v0 v1 v2 v3:Value)(w:World)(hf:FnIs w.cell? f v0 v1 v2 v3)(hff:f.fits):Calls Tryz.prog 79 #[.agg #[v0,v1,v2,v3]] w (CloneFEnd f w):=by
 obtain ⟨⟨a0,c0,rfl,g0⟩,⟨a1,c1,rfl,g1⟩,⟨a2,c2,rfl,g2⟩,⟨a3,c3,rfl,g3⟩⟩:=hf
 obtain ⟨z0,z1,z2,z3⟩:=hff
 have hL:∀ W,Below w.heap.size w W→Lies W (.slice a0 f.p.length c0) f.p.length (cellsN f.p)∧Lies W (.slice a1 f.r.length c1) f.r.length (cellsN f.r)∧Lies W (.slice a2 f.l.length c2) f.l.length (cellsN f.l)∧Lies W (.slice a3 f.code.length c3) f.code.length (cellsI f.code):=fun W hW=>⟨(g0.keep (below_keep hW)).lies c0,(g1.keep (below_keep hW)).lies c1,(g2.keep (below_keep hW)).lies c2,(g3.keep (below_keep hW)).lies c3⟩
 have hC0:∀ W,Below w.heap.size w W→Calls Tryz.prog 109 #[.slice a0 f.p.length c0] W (CopyEnd 3 1 f.p.length (cellsN f.p) W):=fun W hW=>copyN a0 _ c0 _ W (hL W hW).1 (cellsN_len _) (cellsN_one _) z0
 have hC1:∀ W,Below w.heap.size w W→Calls Tryz.prog 109 #[.slice a1 f.r.length c1] W (CopyEnd 3 1 f.r.length (cellsN f.r) W):=fun W hW=>copyN a1 _ c1 _ W (hL W hW).2.1 (cellsN_len _) (cellsN_one _) z1
 have hC2:∀ W,Below w.heap.size w W→Calls Tryz.prog 109 #[.slice a2 f.l.length c2] W (CopyEnd 3 1 f.l.length (cellsN f.l) W):=fun W hW=>copyN a2 _ c2 _ W (hL W hW).2.2.1 (cellsN_len _) (cellsN_one _) z2
 have hC3:∀ W,Below w.heap.size w W→Calls Tryz.prog 110 #[.slice a3 f.code.length c3] W (CopyEnd 74 2 f.code.length (cellsI f.code) W):=fun W hW=>copyI a3 _ c3 _ W (hL W hW).2.2.2 (cellsI_len _) (cellsI_one _) z3
 have fin:∀ (w9:World) u0 u1 u2 u3,w9.ownsRow w.heap.size 3 1 u0 f.p.length (cellsN f.p)→w9.ownsRow w.heap.size 3 1 u1 f.r.length (cellsN f.r)→w9.ownsRow w.heap.size 3 1 u2 f.l.length (cellsN f.l)→w9.ownsRow w.heap.size 74 2 u3 f.code.length (cellsI f.code)→Below w.heap.size w w9→CloneFEnd f w (.returned (.agg #[u0,u1,u2,u3])) w9:=fun w9 u0 u1 u2 u3 q0 q1 q2 q3 hb=>⟨⟨u0,u1,u2,u3,rfl,q0,q1,q2,q3⟩,hb⟩
 clear hL g0 g1 g2 g3
 generalize cellsN f.p=x0 at *
 generalize cellsN f.r=x1 at *
 generalize cellsN f.l=x2 at *
 generalize cellsI f.code=x3 at *
 generalize f.p.length=n0 at *
 generalize f.r.length=n1 at *
 generalize f.l.length=n2 at *
 generalize f.code.length=n3 at *
 obtain ⟨W2,hW2⟩:∃ W2,W2=(w.alloc (.cells #[.slice a0 n0 c0,.slice a1 n1 c1,.slice a2 n2 c2,.slice a3 n3 c3] 49)).alloc (.cells #[.slice none 0 0,.slice none 0 0,.slice none 0 0,.slice none 0 0] 49):=⟨_,rfl⟩
 have hb2:Below w.heap.size w W2:=by rw [hW2];exact ((Below.refl _ w).alloc (Nat.le_refl _) _).alloc (by simp) _
 have bA:W2.heap[w.heap.size]?=some (.cells #[.slice a0 n0 c0,.slice a1 n1 c1,.slice a2 n2 c2,.slice a3 n3 c3] 49 (0,0)):=by rw [hW2,Below.heap_alloc _ _ _ (by simp)];exact heap_alloc_new w _
 have bB:W2.heap[w.heap.size+1]?=some (.cells #[.slice none 0 0,.slice none 0 0,.slice none 0 0,.slice none 0 0] 49 (0,0)):=by
  have:=heap_alloc_new (w.alloc (.cells #[.slice a0 n0 c0,.slice a1 n1 c1,.slice a2 n2 c2,.slice a3 n3 c3] 49)) (.cells #[.slice none 0 0,.slice none 0 0,.slice none 0 0,.slice none 0 0] 49)
  rw [hW2];simpa using this
 have lB:=(Array.getElem?_eq_some_iff.1 bB).1
 have hSa:∀ W,Below W2.heap.size W2 W→(W.cell? ⟨w.heap.size,0,none⟩=some (.slice a0 n0 c0)∧W.cell? ⟨w.heap.size,1,none⟩=some (.slice a1 n1 c1)∧W.cell? ⟨w.heap.size,2,none⟩=some (.slice a2 n2 c2)∧W.cell? ⟨w.heap.size,3,none⟩=some (.slice a3 n3 c3))∧W.cell? ⟨w.heap.size+1,0,none⟩=some (.slice none 0 0)∧W.cell? ⟨w.heap.size+1,1,none⟩=some (.slice none 0 0)∧W.cell? ⟨w.heap.size+1,2,none⟩=some (.slice none 0 0)∧W.cell? ⟨w.heap.size+1,3,none⟩=some (.slice none 0 0)∧W.frozen? ⟨w.heap.size+1,0,none⟩=false∧W.frozen? ⟨w.heap.size+1,1,none⟩=false∧W.frozen? ⟨w.heap.size+1,2,none⟩=false∧W.frozen? ⟨w.heap.size+1,3,none⟩=false:=fun W hW=>by
  have e1:=(hW.block _ (by omega)).trans bA
  have e2:=(hW.block _ lB).trans bB
  refine ⟨⟨?_,?_,?_,?_⟩,?_,?_,?_,?_,Lib.frozen_of_heap e2 0,Lib.frozen_of_heap e2 1,Lib.frozen_of_heap e2 2,Lib.frozen_of_heap e2 3⟩
  all_goals first | (rw [Lib.cell_of_heap e1];rfl) | (rw [Lib.cell_of_heap e2];rfl)
 have hSk:∀ W,Below W2.heap.size W2 W→W.cell? ⟨w.heap.size,0,none⟩=some (.slice a0 n0 c0)∧W.cell? ⟨w.heap.size,1,none⟩=some (.slice a1 n1 c1)∧W.cell? ⟨w.heap.size,2,none⟩=some (.slice a2 n2 c2)∧W.cell? ⟨w.heap.size,3,none⟩=some (.slice a3 n3 c3):=fun W hW=>(hSa W hW).1
 have hb0:Below W2.heap.size W2 W2.drew:=(Below.refl _ _).drew
 have lift:∀ W,Below W2.heap.size W2 W→Below w.heap.size w W:=fun W h=>hb2.trans (h.mono hb2.size)
 have hD0:=hC0 W2.drew (lift _ hb0)
 clear hC0
 go_enter Tryz.func79,Tryz.ntmps79
 go_wp2_with fail
 rw [← hW2]
 clear hW2
 go_region_held3 (fun W=>W.cell? ⟨w.heap.size,0,none⟩=some (.slice a0 n0 c0)∧W.cell? ⟨w.heap.size,1,none⟩=some (.slice a1 n1 c1)∧W.cell? ⟨w.heap.size,2,none⟩=some (.slice a2 n2 c2)∧W.cell? ⟨w.heap.size,3,none⟩=some (.slice a3 n3 c3)) (first | go_keep | exact hSk _ hb8 | exact hSk _ hb7 | exact hSk _ hb6 | exact hSk _ hb5 | exact hSk _ (Below.refl _ _)) (first | (go_at_call 109;first | (refine hD0.mono ?_;clear hD0;rintro e w5 ⟨⟨r0,rfl,q0⟩,hb5'⟩;obtain ⟨b0,d0,rfl,_⟩:=row_form q0;have hb5:=hb0.trans hb5';have hD1:=hC1 w5 (lift _ hb5);clear hC1) | (refine hD1.mono ?_;clear hD1;rintro e w6 ⟨⟨r1,rfl,q1⟩,hb6'⟩;obtain ⟨b1,d1,rfl,_⟩:=row_form q1;have hb6:=hb5.trans (hb6'.mono hb5.size);have hD2:=hC2 w6 (lift _ hb6);clear hC2) | (refine hD2.mono ?_;clear hD2;rintro e w7 ⟨⟨r2,rfl,q2⟩,hb7'⟩;obtain ⟨b2,d2,rfl,_⟩:=row_form q2;have hb7:=hb6.trans (hb7'.mono hb6.size);have hD3:=hC3 w7 (lift _ hb7);clear hC3)) | (go_at_call 110;refine hD3.mono ?_;clear hD3;rintro e w8 ⟨⟨r3,rfl,q3⟩,hb8'⟩;obtain ⟨b3,d3,rfl,_⟩:=row_form q3;have hb8:=hb7.trans (hb8'.mono hb7.size);obtain ⟨_,m0,m1,m2,m3,o0,o1,o2,o3⟩:=hSa w8 hb8))
 have sz:W2.drew.heap.size=W2.heap.size:=rfl
 have s5:=hb5.size
 have s6:=hb6.size
 have s7:=hb7.size
 have t7:Below w7.heap.size w7 w8:=hb8'
 have t6:=hb7'.trans (t7.mono hb7'.size)
 have t5:=hb6'.trans (t6.mono hb6'.size)
 have Q0:=set4_row (b:=w.heap.size+1) (.slice b0 n0 d0) (.slice b1 n1 d1) (.slice b2 n2 d2) (.slice b3 n3 d3) (row_below2 q0 t5) (by omega)
 have Q1:=set4_row (b:=w.heap.size+1) (.slice b0 n0 d0) (.slice b1 n1 d1) (.slice b2 n2 d2) (.slice b3 n3 d3) (row_below2 q1 t6) (by omega)
 have Q2:=set4_row (b:=w.heap.size+1) (.slice b0 n0 d0) (.slice b1 n1 d1) (.slice b2 n2 d2) (.slice b3 n3 d3) (row_below2 q2 t7) (by omega)
 have Q3:=set4_row (b:=w.heap.size+1) (.slice b0 n0 d0) (.slice b1 n1 d1) (.slice b2 n2 d2) (.slice b3 n3 d3) q3 (by omega)
 obtain ⟨k0,k1,k2,k3⟩:=set4_cells (.slice b0 n0 d0) (.slice b1 n1 d1) (.slice b2 n2 d2) (.slice b3 n3 d3) m0 m1 m2 m3
 have F:=fin _ _ _ _ _ (row_lower Q0 (by omega)) (row_lower Q1 (by omega)) (row_lower Q2 (by omega)) (row_lower Q3 (by omega)) (set4_below _ _ _ _ (lift _ hb8) (by omega))
 rw [show ((((w8.setCell ⟨w.heap.size+1,0,none⟩ (.slice b0 n0 d0)).setCell ⟨w.heap.size+1,1,none⟩ (.slice b1 n1 d1)).setCell ⟨w.heap.size+1,2,none⟩ (.slice b2 n2 d2)).setCell ⟨w.heap.size+1,3,none⟩ (.slice b3 n3 d3))=set4 w8 (w.heap.size+1) (.slice b0 n0 d0) (.slice b1 n1 d1) (.slice b2 n2 d2) (.slice b3 n3 d3) from rfl]
 generalize set4 w8 (w.heap.size+1) (.slice b0 n0 d0) (.slice b1 n1 d1) (.slice b2 n2 d2) (.slice b3 n3 d3)=W9 at k0 k1 k2 k3 F ⊢
 go_wp2_with fail
 exact bodyPost_ret (results_cell1 rfl _ _ _ _ _ rfl (load_fn k0 k1 k2 k3)) rfl F
theorem set_blk {w:World}{F o:Nat}{cs:Array Value}{t:TypeId}{z:Nat × Nat}(u:Value)(h:w.heap[F]?=some (.cells cs t z)):(w.setCell ⟨F,o,none⟩ u).heap[F]?=some (.cells (cs.setIfInBounds o u) t z):=by
 have hlt:=lt_of_block h
 have h':w.heap[F]=.cells cs t z:=by simpa [Array.getElem?_eq_getElem hlt] using h
 show (w.heap.modify F _)[F]?=_
 rw [Array.getElem?_eq_getElem (by simpa using hlt),Array.getElem_modify_self,h']
 rfl
def set4k (w:World)(F o:Nat)(x0 x1 x2 x3:Value):World:=(((w.setCell ⟨F,o,none⟩ x0).setCell ⟨F,o+1,none⟩ x1).setCell ⟨F,o+2,none⟩ x2).setCell ⟨F,o+3,none⟩ x3
theorem set4k_blk {w:World}{F o:Nat}{cs:Array Value}{t:TypeId}{z:Nat × Nat}(x0 x1 x2 x3:Value)(h:w.heap[F]?=some (.cells cs t z)):(set4k w F o x0 x1 x2 x3).heap[F]?=some (.cells ((((cs.setIfInBounds o x0).setIfInBounds (o+1) x1).setIfInBounds (o+2) x2).setIfInBounds (o+3) x3) t z):=set_blk x3 (set_blk x2 (set_blk x1 (set_blk x0 h)))
theorem set4k_row {w:World}{F o base n size:Nat}{e:TypeId}{v:Value}{xs:List Value}(x0 x1 x2 x3:Value)(h:w.ownsRow base e size v n xs)(hb:F<base):(set4k w F o x0 x1 x2 x3).ownsRow base e size v n xs:=ownsRow_setCell_other' (ownsRow_setCell_other' (ownsRow_setCell_other' (ownsRow_setCell_other' h hb _) hb _) hb _) hb _
theorem set4k_below {w0 w:World}{B F o:Nat}(x0 x1 x2 x3:Value)(h:Below B w0 w)(hb:B≤F):Below B w0 (set4k w F o x0 x1 x2 x3):=(((h.setCell (p:=⟨F,o,none⟩) hb _).setCell (p:=⟨F,o+1,none⟩) hb _).setCell (p:=⟨F,o+2,none⟩) hb _).setCell (p:=⟨F,o+3,none⟩) hb _
theorem set4k_other {w:World}{F o k:Nat}(x0 x1 x2 x3:Value)(hk:k≠F):(set4k w F o x0 x1 x2 x3).heap[k]?=w.heap[k]?:=by
 unfold set4k
 rw [Below.heap_setCell _ _ _ _ hk,Below.heap_setCell _ _ _ _ hk,Below.heap_setCell _ _ _ _ hk,Below.heap_setCell _ _ _ _ hk]
theorem set4k_cell {w:World}{F o b i:Nat}{v:Value}(x0 x1 x2 x3:Value)(hk:¬ b=F)(h:w.cell? ⟨b,i,none⟩=some v):(set4k w F o x0 x1 x2 x3).cell? ⟨b,i,none⟩=some v:=by
 rw [World.cell?_of_block (a:=⟨b,i,none⟩) (set4k_other x0 x1 x2 x3 hk)];exact h
def FBlk (w:World)(C:Addr→Option Value)(F N base:Nat)(fs:List Fn)(k:Nat):Prop:=∃ cs:Array Value,w.heap[F]?=some (.cells cs 49 (0,0))∧cs.size=N ∧
 (∀ j (h:j<fs.length),j<k→∃ u0 u1 u2 u3,cs[j*4]?=some u0∧cs[j*4+1]?=some u1∧cs[j*4+2]?=some u2∧cs[j*4+3]?=some u3∧FnOwn w base fs[j] u0 u1 u2 u3) ∧
 (∀ j (h:j<fs.length),k≤j→∃ u0 u1 u2 u3,cs[j*4]?=some u0∧cs[j*4+1]?=some u1∧cs[j*4+2]?=some u2∧cs[j*4+3]?=some u3∧FnIs C fs[j] u0 u1 u2 u3)
theorem FBlk.below {w w':World}{C:Addr→Option Value}{F N base k:Nat}{fs:List Fn}(h:FBlk w C F N base fs k)(hb:Below w.heap.size w w'):FBlk w' C F N base fs k:=by
 obtain ⟨cs,h1,h2,h3,h4⟩:=h
 refine ⟨cs,(hb.block F (lt_of_block h1)).trans h1,h2,fun j hj hk=>?_,h4⟩
 obtain ⟨u0,u1,u2,u3,q0,q1,q2,q3,hO⟩:=h3 j hj hk
 exact ⟨u0,u1,u2,u3,q0,q1,q2,q3,hO.below hb⟩
theorem set4_get {cs:Array Value}{o i:Nat}(x0 x1 x2 x3:Value)(hi:i<o∨o+4≤i):((((cs.setIfInBounds o x0).setIfInBounds (o+1) x1).setIfInBounds (o+2) x2).setIfInBounds (o+3) x3)[i]?=cs[i]?:=by
 rw [Array.getElem?_setIfInBounds_ne (by omega),Array.getElem?_setIfInBounds_ne (by omega),Array.getElem?_setIfInBounds_ne (by omega),Array.getElem?_setIfInBounds_ne (by omega)]
theorem FBlk.set {w:World}{C:Addr→Option Value}{F N base k:Nat}{fs:List Fn}{x0 x1 x2 x3:Value}(h:FBlk w C F N base fs k)(hk:k<fs.length)(hN:fs.length*4≤N)(hF:F<base)(hO:FnOwn w base fs[k] x0 x1 x2 x3):FBlk (set4k w F (k*4) x0 x1 x2 x3) C F N base fs (k+1):=by
 obtain ⟨cs,h1,h2,h3,h4⟩:=h
 have key:∀ {f:Fn} {u0 u1 u2 u3:Value},FnOwn w base f u0 u1 u2 u3→FnOwn (set4k w F (k*4) x0 x1 x2 x3) base f u0 u1 u2 u3:=fun h=>⟨set4k_row _ _ _ _ h.1 hF,set4k_row _ _ _ _ h.2.1 hF,set4k_row _ _ _ _ h.2.2.1 hF,set4k_row _ _ _ _ h.2.2.2 hF⟩
 refine ⟨_,set4k_blk x0 x1 x2 x3 h1,by simp [h2],fun j hj hjk=>?_,fun j hj hjk=>?_⟩
 ·rcases Nat.lt_or_ge j k with hlt | hge
  ·obtain ⟨u0,u1,u2,u3,q0,q1,q2,q3,hO'⟩:=h3 j hj hlt
   refine ⟨u0,u1,u2,u3,?_,?_,?_,?_,key hO'⟩
   all_goals (rw [set4_get _ _ _ _ (by omega)];assumption)
  ·obtain rfl:j=k:=by omega
   refine ⟨x0,x1,x2,x3,?_,?_,?_,?_,key hO⟩
   ·rw [Array.getElem?_setIfInBounds_ne (by omega),Array.getElem?_setIfInBounds_ne (by omega),Array.getElem?_setIfInBounds_ne (by omega),Array.getElem?_setIfInBounds_self_of_lt (by omega)]
   ·rw [Array.getElem?_setIfInBounds_ne (by omega),Array.getElem?_setIfInBounds_ne (by omega),Array.getElem?_setIfInBounds_self_of_lt (by simp;omega)]
   ·rw [Array.getElem?_setIfInBounds_ne (by omega),Array.getElem?_setIfInBounds_self_of_lt (by simp;omega)]
   ·rw [Array.getElem?_setIfInBounds_self_of_lt (by simp;omega)]
 ·obtain ⟨u0,u1,u2,u3,q0,q1,q2,q3,hI⟩:=h4 j hj (by omega)
  refine ⟨u0,u1,u2,u3,?_,?_,?_,?_,hI⟩
  all_goals (rw [set4_get _ _ _ _ (by omega)];assumption)
theorem FnOwn.lower {w:World}{base base':Nat}{f:Fn}{u0 u1 u2 u3:Value}(h:FnOwn w base f u0 u1 u2 u3)(hb:base'≤base):FnOwn w base' f u0 u1 u2 u3:=⟨row_lower h.1 hb,row_lower h.2.1 hb,row_lower h.2.2.1 hb,row_lower h.2.2.2 hb⟩
theorem FBlk.done {w:World}{C:Addr→Option Value}{F N base base' b o:Nat}{u:Value}{fs:List Fn}(h:FBlk w C F N base fs fs.length)(hb:b<base)(hF:b≠F)(hB:base'≤base):FBlk (w.setCell ⟨b,o,none⟩ u) (fun _=>none) F N base' fs fs.length:=by
 obtain ⟨cs,h1,h2,h3,_⟩:=h
 refine ⟨cs,by rw [Below.heap_setCell _ _ _ _ (fun e=>hF e.symm)];exact h1,h2,fun j hj hk=>?_,fun j hj hk=>by omega⟩
 obtain ⟨u0,u1,u2,u3,q0,q1,q2,q3,hO⟩:=h3 j hj hk
 exact ⟨u0,u1,u2,u3,q0,q1,q2,q3,FnOwn.lower ⟨ownsRow_setCell_other' hO.1 hb _,ownsRow_setCell_other' hO.2.1 hb _,ownsRow_setCell_other' hO.2.2.1 hb _,ownsRow_setCell_other' hO.2.2.2 hb _⟩ hB⟩
structure ScrOwn (w:World)(base:Nat)(s:Scr)(v0 v1:Value):Prop where
 consts:w.ownsRow base 9 1 v0 s.consts.length (cellsS s.consts)
 form:∃ a c,v1=.slice a s.funcs.length c
 funcs:s.funcs=[]∨∃ F N c,v1=.slice (some ⟨F,0,none⟩) s.funcs.length c∧base≤F∧s.funcs.length*4≤N∧FBlk w (fun _=>none) F N base s.funcs s.funcs.length
def CloneSEnd (s:Scr)(w:World)(e:Ending)(w':World):Prop:=(∃ v0 v1,e=.returned (.agg #[v0,v1])∧ScrOwn w' w.heap.size s v0 v1)∧Below w.heap.size w w'
theorem FnIs.forms {C:Addr→Option Value}{f:Fn}{u0 u1 u2 u3:Value}(h:FnIs C f u0 u1 u2 u3):u0.oneCell'=true∧u1.oneCell'=true∧u2.oneCell'=true∧u3.oneCell'=true:=by
 obtain ⟨⟨_,_,rfl,_⟩,⟨_,_,rfl,_⟩,⟨_,_,rfl,_⟩,⟨_,_,rfl,_⟩⟩:=h
 exact ⟨rfl,rfl,rfl,rfl⟩
theorem FsAt.lies {w:World}{a:Option Addr}{fs:List Fn}(h:FsAt w.cell? a fs)(c:Nat):∃ xs,Lies w (.slice a fs.length c) fs.length xs∧FRow w.cell? fs xs∧∀ u ∈ xs,u.oneCell'=true:=by
 rcases h with rfl | ⟨b,off,rfl,hc⟩
 ·refine ⟨[],?_,FRow.nil _,fun u hu=>by simp at hu⟩
  cases a with
  | none=>exact .inl ⟨c,rfl,rfl,rfl⟩
  | some ad=>exact .inr ⟨ad,c,rfl,fun j u hu=>by simp at hu⟩
 ·have key:∀ n,n≤fs.length→∃ xs,FRow w.cell? (fs.take n) xs∧(∀ u ∈ xs,u.oneCell'=true)∧∀ j u,xs[j]?=some u→w.cell? ⟨b,off+j,none⟩=some u:=fun n=>by
   induction n with
   | zero=>intro _;exact ⟨[],by simpa using FRow.nil _,fun u hu=>by simp at hu,fun j u hu=>by simp at hu⟩
   | succ n ih =>
    intro hn
    obtain ⟨xs,h1,h2,h3⟩:=ih (by omega)
    obtain ⟨v0,v1,v2,v3,q0,q1,q2,q3,hf⟩:=hc n (by omega)
    have hl:=h1.1
    rw [List.length_take,Nat.min_eq_left (by omega)] at hl
    refine ⟨xs++[v0,v1,v2,v3],?_,fun u hu=>?_,fun j u hu=>?_⟩
    ·rw [List.take_add_one,List.getElem?_eq_getElem (by omega)]
     exact h1.snoc hf
    ·obtain ⟨o0,o1,o2,o3⟩:=hf.forms
     simp only [List.mem_append,List.mem_cons,List.not_mem_nil,or_false] at hu
     rcases hu with hu | rfl | rfl | rfl | rfl
     ·exact h2 u hu
     all_goals assumption
    ·rcases Nat.lt_or_ge j xs.length with hlt | hge
     ·rw [List.getElem?_append_left hlt] at hu
      exact h3 j u hu
     ·rw [List.getElem?_append_right hge] at hu
      obtain ⟨i,hi⟩:∃ i,j=n*4+i:=⟨j - n*4,by omega⟩
      subst hi
      rw [hl,Nat.add_sub_cancel_left] at hu
      match i,hu with
      | 0,hu=>cases hu;exact q0
      | 1,hu=>cases hu;exact q1
      | 2,hu=>cases hu;exact q2
      | 3,hu=>cases hu;exact q3
      | i+4,hu=>simp at hu
  obtain ⟨xs,h1,h2,h3⟩:=key fs.length (Nat.le_refl _)
  rw [List.take_length] at h1
  exact ⟨xs,.inr ⟨_,c,rfl,fun j u hu=>by rw [Addr.add_lit];exact h3 j u hu⟩,h1,h2⟩
theorem fblk_of_row {w:World}{C:Addr→Option Value}{base n:Nat}{v:Value}{fs:List Fn}{xs:List Value}(h:w.ownsRow base 49 4 v n xs)(hF:FRow C fs xs)(hn:fs.length=n):fs=[]∧(∃ a c,v=.slice a n c)∨∃ F N c,v=.slice (some ⟨F,0,none⟩) n c∧base≤F∧n*4≤N∧∀ b,FBlk w C F N b fs 0:=by
 rcases h.2 with ⟨rfl,h0⟩ | ⟨g,cap,cur,rfl,hg,hh,hnc,hcm,hsz,htk⟩
 ·exact .inl ⟨List.eq_nil_of_length_eq_zero (by omega),none,0,by rw [h0]⟩
 ·refine .inr ⟨g,cap*4,cap,rfl,hg,Nat.mul_le_mul_right _ hnc,fun b=>⟨cur,hh,hsz,fun j hj h0=>by omega,fun j hj _=>?_⟩⟩
  obtain ⟨v0,v1,v2,v3,q0,q1,q2,q3,hf⟩:=hF.2 j hj
  have key:∀ i u,i<n*4→xs[i]?=some u→cur[i]?=some u:=fun i u hi hu=>by
   rw [← htk,List.getElem?_take_of_lt hi] at hu
   simpa using hu
  exact ⟨v0,v1,v2,v3,key _ _ (by omega) q0,key _ _ (by omega) q1,key _ _ (by omega) q2,key _ _ (by omega) q3,hf⟩
def Copied (W2:World)(n0 n1:Nat)(xs ys:List Value)(c:Value)(wx:World):Prop:=∃ (Bc:Nat) (x0 x1:Option Addr) (d0 d1:Nat),c=.pointer (some ⟨Bc,0,none⟩)∧wx.heap[Bc]?=some (.cells #[.slice x0 n0 d0,.slice x1 n1 d1] 27 (0,0))∧W2.heap.size≤Bc∧wx.ownsRow W2.heap.size 9 1 (.slice x0 n0 d0) n0 xs∧wx.ownsRow W2.heap.size 49 4 (.slice x1 n1 d1) n1 ys∧Below W2.heap.size W2 wx
theorem copied_new {W2 w5:World}{n0 n1:Nat}{xs ys:List Value}{x0 x1:Option Addr}{d0 d1:Nat}(q0:w5.ownsRow W2.heap.size 9 1 (.slice x0 n0 d0) n0 xs)(q1:w5.ownsRow W2.heap.size 49 4 (.slice x1 n1 d1) n1 ys)(hb:Below W2.heap.size W2 w5):Copied W2 n0 n1 xs ys (.pointer (some ⟨w5.heap.size,0,none⟩)) (w5.alloc (.cells #[.slice x0 n0 d0,.slice x1 n1 d1] 27)) :=
 ⟨_,x0,x1,d0,d1,rfl,heap_alloc_new w5 _,hb.size,World.ownsRow.alloc q0 _,World.ownsRow.alloc q1 _,hb.alloc hb.size _⟩
theorem row_set_other {w:World}{base n size b o:Nat}{e e':TypeId}{v u:Value}{xs:List Value}{cs:Array Value}(h:w.ownsRow base e size v n xs)(hb:w.heap[b]?=some (.cells cs e' (0,0)))(hne:e≠e'):(w.setCell ⟨b,o,none⟩ u).ownsRow base e size v n xs:=by
 refine ⟨h.1,?_⟩
 rcases h.2 with h2 | ⟨g,cap,cur,rfl,hg,hh,r⟩
 ·exact .inl h2
 ·refine .inr ⟨g,cap,cur,rfl,hg,?_,r⟩
  rw [Below.heap_setCell _ _ _ _ (fun e2=>?_)]
  ·exact hh
  ·have e3:g=b:=e2
   subst e3
   rw [hh] at hb
   cases hb
   exact hne rfl
theorem set4k_row_other {w:World}{base n size F o:Nat}{e e':TypeId}{v:Value}{xs:List Value}{cs:Array Value}(x0 x1 x2 x3:Value)(h:w.ownsRow base e size v n xs)(hb:w.heap[F]?=some (.cells cs e' (0,0)))(hne:e≠e'):(set4k w F o x0 x1 x2 x3).ownsRow base e size v n xs :=
 row_set_other (row_set_other (row_set_other (row_set_other h hb hne) (set_blk _ hb) hne) (set_blk _ (set_blk _ hb)) hne) (set_blk _ (set_blk _ (set_blk _ hb))) hne
theorem copied_set {W2 w5:World}{n0 n1 B:Nat}{xs ys:List Value}{x0 x1:Option Addr}{d0 d1:Nat}{y z:Value}(q0:w5.ownsRow W2.heap.size 9 1 (.slice x0 n0 d0) n0 xs)(q1:w5.ownsRow W2.heap.size 49 4 (.slice x1 n1 d1) n1 ys)(hb:Below W2.heap.size W2 w5)(hB:w5.heap[B]?=some (.cells #[y,z] 27 (0,0)))(hle:W2.heap.size≤B):Copied W2 n0 n1 xs ys (.pointer (some ⟨B,0,none⟩)) ((w5.setCell ⟨B,0,none⟩ (.slice x0 n0 d0)).setCell ⟨B,1,none⟩ (.slice x1 n1 d1)):=by
 have h1:=set2_0 (u:=.slice x0 n0 d0) hB
 exact ⟨B,x0,x1,d0,d1,rfl,set2_1 h1,hle,row_set_other (row_set_other q0 hB (by decide)) h1 (by decide),row_set_other (row_set_other q1 hB (by decide)) h1 (by decide),(hb.setCell (p:=⟨B,0,none⟩) hle _).setCell (p:=⟨B,1,none⟩) hle _⟩
set_option maxRecDepth 100000 in
set_option maxHeartbeats 1000000 in
theorem clone4_any (s:Scr)(V0 V1:Value)(w:World)(hs:ScIs w.cell? s V0 V1)(hsf:s.fits):Calls Tryz.prog 43 #[.agg #[V0,V1]] w (CloneSEnd s w):=by
 obtain ⟨⟨A0,C0,rfl,h0⟩,⟨A1,C1,rfl,h1⟩⟩:=hs
 obtain ⟨ys,hl1,hF1,ho1⟩:=h1.lies C1
 have hl0:=h0.lies C0
 have zF:ys.length=s.funcs.length*4:=hF1.1
 have hS1:∀ W,Below w.heap.size w W→Calls Tryz.prog 77 #[.slice A0 s.consts.length C0] W (CopyEnd 9 1 s.consts.length (cellsS s.consts) W):=fun W hW=>copyS A0 _ C0 _ W (hl0.keep (below_keep hW)) (cellsS_len _) (cellsS_one _) hsf.1
 have hS2:∀ W,Below w.heap.size w W→Calls Tryz.prog 78 #[.slice A1 s.funcs.length C1] W (CopyEnd 49 4 s.funcs.length ys W):=fun W hW=>copyF A1 _ C1 _ W (hl1.keep (below_keep hW)) zF ho1 hsf.2.1
 have hff:=hsf.2.2.1
 obtain ⟨n0,hn0⟩:∃ n,n=s.consts.length:=⟨_,rfl⟩
 obtain ⟨n1,hn1⟩:∃ n,n=s.funcs.length:=⟨_,rfl⟩
 rw [← hn0] at hS1 ⊢
 rw [← hn1] at hS2 ⊢
 have z1:n1≤1466015503701:=by rw [hn1];exact hsf.2.1
 have HC:=hid hn0
 have HF:=hid hn1
 clear hn0 hn1
 obtain ⟨W2,hW2⟩:∃ W2,W2=(w.alloc (.cells #[.slice A0 n0 C0,.slice A1 n1 C1] 27)).alloc (.cells #[.slice none 0 0,.slice none 0 0] 27):=⟨_,rfl⟩
 have hz2:w.heap.size+2≤W2.heap.size:=by rw [hW2];simp
 have hb2:Below w.heap.size w W2:=by rw [hW2];exact ((Below.refl _ w).alloc (Nat.le_refl _) _).alloc (by simp) _
 have bA:W2.heap[w.heap.size]?=some (.cells #[.slice A0 n0 C0,.slice A1 n1 C1] 27 (0,0)):=by rw [hW2,Below.heap_alloc _ _ _ (by simp)];exact heap_alloc_new w _
 have bB:W2.heap[w.heap.size+1]?=some (.cells #[.slice none 0 0,.slice none 0 0] 27 (0,0)):=by
  have:=heap_alloc_new (w.alloc (.cells #[.slice A0 n0 C0,.slice A1 n1 C1] 27)) (.cells #[.slice none 0 0,.slice none 0 0] 27)
  rw [hW2];simpa using this
 have hSk:∀ W,Below W2.heap.size W2 W→W.cell? ⟨w.heap.size,0,none⟩=some (.slice A0 n0 C0)∧W.cell? ⟨w.heap.size,1,none⟩=some (.slice A1 n1 C1):=fun W hW=>by
  obtain ⟨q0,q1,_,_⟩:=cells2 ((hW.block _ (lt_of_block bA)).trans bA)
  exact ⟨q0,q1⟩
 have lift:∀ W,Below W2.heap.size W2 W→Below w.heap.size w W:=fun W h=>hb2.trans (h.mono hb2.size)
 have hb3:Below W2.heap.size W2 W2.drew:=(Below.refl _ _).drew
 obtain ⟨p0,p1⟩:=hSk W2 (Below.refl _ _)
 obtain ⟨xs,hxs⟩:∃ xs,xs=cellsS s.consts:=⟨_,rfl⟩
 rw [← hxs] at hS1
 have HX:=hid hxs.symm
 clear hxs
 go_enter Tryz.func43,Tryz.ntmps43
 go_upto_region 1 with fail
 rw [← hW2]
 clear hW2
 go_cut [3] (fun c wx=>Copied W2 n0 n1 xs ys c wx)
 case first =>
  go_region_held3 (fun W=>W.cell? ⟨w.heap.size,0,none⟩=some (.slice A0 n0 C0)∧W.cell? ⟨w.heap.size,1,none⟩=some (.slice A1 n1 C1)) (first | go_keep | exact hSk _ hb5 | exact hSk _ hb4 | exact hSk _ (hb5.alloc hb5.size _) | exact hSk _ (hb4.alloc hb4.size _) | exact hSk _ (hb3.alloc hb3.size _) | exact hSk _ hb3 | exact hSk _ (Below.refl _ _) | exact hSk _ ((hb5.setCell (p:=⟨w4.heap.size,0,none⟩) hb4.size _).setCell (p:=⟨w4.heap.size,1,none⟩) hb4.size _) | exact hSk _ ((hb5.setCell (p:=⟨W2.heap.size,0,none⟩) (Nat.le_refl _) _).setCell (p:=⟨W2.heap.size,1,none⟩) (Nat.le_refl _) _)) (first | (go_at_call 77;first | (refine (hS1 _ (lift _ hb3)).mono ?_;rintro e w4 ⟨⟨r0,rfl,q0⟩,hb4'⟩;obtain ⟨x0,d0,rfl,_⟩:=row_form q0;have hb4:=hb3.trans (hb4'.mono hb3.size)) | (refine (hS1 _ (lift _ (hb3.alloc hb3.size _))).mono ?_;rintro e w4 ⟨⟨r0,rfl,q0⟩,hb4'⟩;obtain ⟨x0,d0,rfl,_⟩:=row_form q0;have hb4:=(hb3.alloc hb3.size _).trans (hb4'.mono (hb3.alloc hb3.size _).size);have bx4:w4.heap[W2.heap.size]?=some (.cells #[.slice none 0 0,.slice none 0 0] 27 (0,0)):=(hb4'.block _ (lt_of_block (heap_alloc_new _ _))).trans (heap_alloc_new W2.drew (.cells #[.slice none 0 0,.slice none 0 0] 27)))) | (go_at_call 78;first | (refine (hS2 _ (lift _ hb4)).mono ?_;rintro e w5 ⟨⟨r1,rfl,q1⟩,hb5'⟩;obtain ⟨x1,d1,rfl,_⟩:=row_form q1;have hb5:=hb4.trans (hb5'.mono hb4.size);first | (have bx5:=(hb5'.block _ (lt_of_block bx4)).trans bx4;obtain ⟨y0,y1,o0,o1⟩:=cells2 bx5) | skip) | (refine (hS2 _ (lift _ (hb4.alloc hb4.size _))).mono ?_;rintro e w5 ⟨⟨r1,rfl,q1⟩,hb5'⟩;obtain ⟨x1,d1,rfl,_⟩:=row_form q1;have hb5:=(hb4.alloc hb4.size _).trans (hb5'.mono (hb4.alloc hb4.size _).size);have bx5:=(hb5'.block _ (lt_of_block (heap_alloc_new _ _))).trans (heap_alloc_new w4 (.cells #[.slice none 0 0,.slice none 0 0] 27));obtain ⟨y0,y1,o0,o1⟩:=cells2 bx5)))
  all_goals
   go_wp2_with fail
   go_meet
   first | exact copied_new (row_below2 q0 hb5') (row_lower q1 hb4.size) hb5 | exact copied_set (row_below2 (World.ownsRow.alloc q0 _) hb5') (row_lower q1 (hb4.alloc hb4.size _).size) hb5 bx5 hb4.size | exact copied_set (row_lower (row_below2 q0 hb5') (by simp)) (row_lower q1 hb4.size) hb5 bx5 (Nat.le_refl _)
 case rest =>
  obtain ⟨Bc,x0,x1,d0,d1,rfl,bC,hBc,q0,q1,hbc⟩:=hcut
  have hbk:=fblk_of_row q1 hF1 HF.out.symm
  obtain ⟨R,hR⟩:∃ R:World→Nat→Prop,R=fun W k=>s.funcs=[]∨∃ F N,x1=some ⟨F,0,none⟩∧W2.heap.size≤F∧n1*4≤N∧FBlk W w.cell? F N (F+1) s.funcs k:=⟨_,rfl⟩
  have hR0:R wc 0:=by
   rw [hR]
   rcases hbk with ⟨h0,_⟩ | ⟨F,N,c,hv,h1,h2,h3⟩
   ·exact .inl h0
   ·cases hv
    exact .inr ⟨F,N,rfl,h1,h2,h3 _⟩
  clear hbk
  obtain ⟨cc0,cc1,cf0,cf1⟩:=cells2 bC
  go_wp2_with fail
  go_loopw [16] (fun i wr=>∃ k:Nat,k≤n1∧i=.int .i64 k∧R wr k∧wr.heap[Bc]?=some (.cells #[.slice x0 n0 d0,.slice x1 n1 d1] 27 (0,0))∧wr.ownsRow W2.heap.size 9 1 (.slice x0 n0 d0) n0 xs∧Below W2.heap.size W2 wr) (fun i _=>n1 - (intOf i).toNat)
  case atStart=>exact ⟨0,Nat.zero_le _,rfl,hR0,bC,q0,hbc⟩
  case round =>
   obtain ⟨k,hk,rfl,hRk,bCr,qr,hbr⟩:=hrel
   by_cases hlt:k<n1
   ·rw [hR] at hRk
    rcases hRk with h0 | ⟨F,N,rfl,hF0,hN,hFB⟩
    ·have:=HF.out;rw [h0] at this;simp at this;omega
    have kl:k<s.funcs.length:=by have:=HF.out;omega
    have hFB0:=hFB
    obtain ⟨cs,g1,g2,_,g4⟩:=hFB
    obtain ⟨u0,u1,u2,u3,e0,e1,e2,e3,hI⟩:=g4 k kl (Nat.le_refl _)
    have ff:=hff s.funcs[k] (by simp)
    have hbwr:=lift _ hbr
    have hset:∀ (W:World) x0 x1 x2 x3,FBlk W w.cell? F N (F+1) s.funcs k→FnOwn W (F+1) s.funcs[k] x0 x1 x2 x3→FBlk (set4k W F (k*4) x0 x1 x2 x3) w.cell? F N (F+1) s.funcs (k+1):=fun W x0 x1 x2 x3 h1 h2=>h1.set kl (by have:=HF.out;omega) (Nat.lt_succ_self _) h2
    generalize s.funcs[k]=f at hI ff hset
    have hCl:∀ W,Below wr.heap.size wr W→Calls Tryz.prog 79 #[.agg #[u0,u1,u2,u3]] W (CloneFEnd f W):=fun W hW=>cloneFunc_any f _ _ _ _ W (hI.keep fun a v h=>below_keep hW _ _ (below_keep hbwr _ _ h)) ff
    obtain ⟨⟨a0,c0,rfl,_⟩,⟨a1,c1,rfl,_⟩,⟨a2,c2,rfl,_⟩,⟨a3,c3,rfl,_⟩⟩:=hI
    generalize f.p.length=m0 at *
    generalize f.r.length=m1 at *
    generalize f.l.length=m2 at *
    generalize f.code.length=m3 at *
    have y0:wr.cell? ⟨F,k*4,none⟩=some (.slice a0 m0 c0):=by rw [Lib.cell_of_heap g1];exact e0
    have y1:wr.cell? ⟨F,k*4+1,none⟩=some (.slice a1 m1 c1):=by rw [Lib.cell_of_heap g1];exact e1
    have y2:wr.cell? ⟨F,k*4+2,none⟩=some (.slice a2 m2 c2):=by rw [Lib.cell_of_heap g1];exact e2
    have y3:wr.cell? ⟨F,k*4+3,none⟩=some (.slice a3 m3 c3):=by rw [Lib.cell_of_heap g1];exact e3
    have lF:=lt_of_block g1
    have lC:=lt_of_block bCr
    obtain ⟨W4,hW4⟩:∃ W4,W4=wr.alloc (.cells #[.slice a0 m0 c0,.slice a1 m1 c1,.slice a2 m2 c2,.slice a3 m3 c3] 49):=⟨_,rfl⟩
    have hb4:Below wr.heap.size wr W4:=by rw [hW4];exact (Below.refl _ _).alloc (Nat.le_refl _) _
    have bX:W4.heap[wr.heap.size]?=some (.cells #[.slice a0 m0 c0,.slice a1 m1 c1,.slice a2 m2 c2,.slice a3 m3 c3] 49 (0,0)):=by rw [hW4];exact heap_alloc_new wr _
    have lX:=lt_of_block bX
    have bC4:=(hb4.block _ lC).trans bCr
    have hSk:∀ W,Below W4.heap.size W4 W→W.cell? ⟨Bc,1,none⟩=some (.slice (some ⟨F,0,none⟩) n1 d1)∧W.cell? ⟨wr.heap.size,0,none⟩=some (.slice a0 m0 c0)∧W.cell? ⟨wr.heap.size,1,none⟩=some (.slice a1 m1 c1)∧W.cell? ⟨wr.heap.size,2,none⟩=some (.slice a2 m2 c2)∧W.cell? ⟨wr.heap.size,3,none⟩=some (.slice a3 m3 c3):=fun W hW=>by
     have t1:=(hW.block _ (lt_of_block bC4)).trans bC4
     have t2:=(hW.block _ lX).trans bX
     refine ⟨?_,?_,?_,?_,?_⟩
     all_goals first | (rw [Lib.cell_of_heap t1];rfl) | (rw [Lib.cell_of_heap t2];rfl)
    have hb5:Below W4.heap.size W4 W4.drew:=(Below.refl _ _).drew
    have hC5:=hCl W4.drew (hb4.trans (hb5.mono hb4.size))
    obtain ⟨s0,s1,s2,s3,s4⟩:=hSk W4 (Below.refl _ _)
    clear hCl
    go_upto_region 5 with fail
    rw [← hW4]
    clear hW4
    go_region_held3 (fun W=>W.cell? ⟨Bc,1,none⟩=some (.slice (some ⟨F,0,none⟩) n1 d1)∧W.cell? ⟨wr.heap.size,0,none⟩=some (.slice a0 m0 c0)∧W.cell? ⟨wr.heap.size,1,none⟩=some (.slice a1 m1 c1)∧W.cell? ⟨wr.heap.size,2,none⟩=some (.slice a2 m2 c2)∧W.cell? ⟨wr.heap.size,3,none⟩=some (.slice a3 m3 c3)) (first | go_keep | exact hSk _ hb6 | exact hSk _ hb5 | exact hSk _ (Below.refl _ _) | exact hS7 _ _ _ _) (first | (go_at_call 79;refine hC5.mono ?_;rintro e w6 ⟨⟨v0,v1,v2,v3,rfl,hO6⟩,hb6'⟩;clear hC5;have hb6:=hb5.trans (hb6'.mono hb5.size);have hbr6:=hb4.trans (hb6.mono hb4.size);obtain ⟨b0,k0,rfl,_⟩:=row_form hO6.1;obtain ⟨b1,k1,rfl,_⟩:=row_form hO6.2.1;obtain ⟨b2,k2,rfl,_⟩:=row_form hO6.2.2.1;obtain ⟨b3,k3,rfl,_⟩:=row_form hO6.2.2.2;have g6:=(hbr6.block _ lF).trans g1;have h0:w6.cell? ⟨F,k*4,none⟩=some (.slice a0 m0 c0):=(by rw [Lib.cell_of_heap g6];exact e0);have h1:w6.cell? ⟨F,k*4+1,none⟩=some (.slice a1 m1 c1):=(by rw [Lib.cell_of_heap g6];exact e1);have h2:w6.cell? ⟨F,k*4+2,none⟩=some (.slice a2 m2 c2):=(by rw [Lib.cell_of_heap g6];exact e2);have h3:w6.cell? ⟨F,k*4+3,none⟩=some (.slice a3 m3 c3):=(by rw [Lib.cell_of_heap g6];exact e3);have o0:=Lib.frozen_of_heap g6 (k*4);have o1:=Lib.frozen_of_heap g6 (k*4+1);have o2:=Lib.frozen_of_heap g6 (k*4+2);have o3:=Lib.frozen_of_heap g6 (k*4+3);have hFne:¬ Bc=F:=(fun e=>by subst e;rw [g1] at bCr;cases bCr);have hFne2:¬ wr.heap.size=F:=(by omega);obtain ⟨z0,z1,z2,z3,z4⟩:=hSk w6 hb6;have hS7:=(fun x0 x1 x2 x3=>And.intro (set4k_cell (o:=k*4) x0 x1 x2 x3 hFne z0) (And.intro (set4k_cell (o:=k*4) x0 x1 x2 x3 hFne2 z1) (And.intro (set4k_cell (o:=k*4) x0 x1 x2 x3 hFne2 z2) (And.intro (set4k_cell (o:=k*4) x0 x1 x2 x3 hFne2 z3) (set4k_cell (o:=k*4) x0 x1 x2 x3 hFne2 z4)))))))
    rw [show (((w6.setCell ⟨F,k*4,none⟩ (.slice b0 f.p.length k0)).setCell ⟨F,k*4+1,none⟩ (.slice b1 f.r.length k1)).setCell ⟨F,k*4+2,none⟩ (.slice b2 f.l.length k2)).setCell ⟨F,k*4+3,none⟩ (.slice b3 f.code.length k3)=set4k w6 F (k*4) (.slice b0 f.p.length k0) (.slice b1 f.r.length k1) (.slice b2 f.l.length k2) (.slice b3 f.code.length k3) from rfl]
    have z6:F+1≤W4.drew.heap.size:=by have:W4.drew.heap.size=W4.heap.size:=rfl;omega
    have B6:=hset w6 _ _ _ _ (hFB0.below hbr6) (hO6.lower z6)
    have C6:=(set4k_other (o:=k*4) (.slice b0 f.p.length k0) (.slice b1 f.r.length k1) (.slice b2 f.l.length k2) (.slice b3 f.code.length k3) hFne).trans ((hbr6.block _ lC).trans bCr)
    have Q6:=set4k_row_other (o:=k*4) (.slice b0 f.p.length k0) (.slice b1 f.r.length k1) (.slice b2 f.l.length k2) (.slice b3 f.code.length k3) (row_below2 qr hbr6) g6 (by decide)
    have D6:=set4k_below (o:=k*4) (.slice b0 f.p.length k0) (.slice b1 f.r.length k1) (.slice b2 f.l.length k2) (.slice b3 f.code.length k3) (hbr.trans (hbr6.mono hbr.size)) hF0
    generalize set4k w6 F (k*4) (.slice b0 f.p.length k0) (.slice b1 f.r.length k1) (.slice b2 f.l.length k2) (.slice b3 f.code.length k3)=W7 at B6 C6 Q6 D6 ⊢
    have hR7:R W7 (k+1):=by rw [hR];exact .inr ⟨F,N,rfl,hF0,hN,B6⟩
    go_wp2_with fail
    exact ⟨⟨k+1,by omega,by go_num,hR7,C6,Q6,D6⟩,by simp [intOf];omega⟩
   ·obtain rfl:k=n1:=by omega
    rw [hR] at hRk
    obtain ⟨m0,m1,_,_⟩:=cells2 bCr
    have bR:=(hbr.block _ (lt_of_block bB)).trans bB
    obtain ⟨i0,i1,i2,i3⟩:=cells2 bR
    have hj:=cells2 (set2_1 (u:=.slice x1 k d1) (set2_0 (u:=.slice x0 n0 d0) bR))
    have Q7:=row_set_other (o:=1) (u:=.slice x1 k d1) (row_set_other (o:=0) (u:=.slice x0 n0 d0) qr bR (by decide)) (set2_0 (u:=.slice x0 n0 d0) bR) (by decide)
    have D7:=((lift _ hbr).setCell (p:=⟨w.heap.size+1,0,none⟩) (Nat.le_succ _) (.slice x0 n0 d0)).setCell (p:=⟨w.heap.size+1,1,none⟩) (Nat.le_succ _) (.slice x1 k d1)
    have E7:ScrOwn ((wr.setCell ⟨w.heap.size+1,0,none⟩ (.slice x0 n0 d0)).setCell ⟨w.heap.size+1,1,none⟩ (.slice x1 k d1)) w.heap.size s (.slice x0 n0 d0) (.slice x1 k d1):=by
     refine ⟨?_,⟨x1,d1,by rw [HF.out]⟩,?_⟩
     ·rw [← HC.out]
      rw [HX.out]
      exact row_lower Q7 (by omega)
     ·rcases hRk with h0 | ⟨F,N,rfl,hF0,hN,hFB⟩
      ·exact .inl h0
      ·right
       refine ⟨F,N,d1,by rw [HF.out],by omega,by rw [← HF.out];exact hN,?_⟩
       rw [show k=s.funcs.length from HF.out] at hFB
       exact FBlk.done (FBlk.done hFB (by omega) (by omega) (Nat.le_refl _)) (by omega) (by omega) (by omega)
    go_wp2_with fail
    exact bodyPost_ret (results_cell1 rfl _ _ _ _ _ rfl (load_scr hj.1 hj.2.1)) rfl ⟨⟨_,_,rfl,E7⟩,D7⟩
end Go.Proofs.YtpmlnkjamhelnaaGreat
