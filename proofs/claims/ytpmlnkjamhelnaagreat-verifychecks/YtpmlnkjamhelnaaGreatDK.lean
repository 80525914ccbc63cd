/- The document's Get of any bytes. -/
import Derived.Test.YtpmlnkjamhelnaaGreatDJ
import Derived.Test.YtpmlnkjamhelnaaGreatCTg
namespace Go.Proofs.YtpmlnkjamhelnaaGreat
open Go.RowKit
theorem RfS.low {w:World}{q g:Nat}{bs:List UInt8}{k:Nat}{err:Int}(H:RfS w q g bs k err)(b:Nat)(hb:b≠q)(hbw:b<w.heap.size):∃ g',RfS w q g' bs k err∧g'<w.heap.size:=by
 rcases Nat.lt_or_ge g w.heap.size with h | h
 ·exact ⟨g,H,h⟩
 ·obtain ⟨⟨ao,cap,hE,hB,hc,hm⟩,hg,hk,hx⟩:=H
  refine ⟨b,⟨⟨ao,cap,hE,?_,hc,hm⟩,hb,hk,hx⟩,hbw⟩
  rcases hB with h0 | ⟨off,rfl,hcell⟩
  ·exact .inl h0
  ·by_cases hz:bs=[]
   ·exact .inl hz
   ·exfalso
    have:=World.block_lt_of_cell? _ _ (hcell 0 (List.length_pos_iff.2 hz))
    simp only at this
    omega
set_option maxRecDepth 100000 in
set_option maxHeartbeats 4000000 in
theorem rget4_any (a:Option Addr)(m c:Nat)(bs:List UInt8)(hm:bs.length=m)(w:World)(hB:Bs w a bs)(hm':m≤140737488351232):Calls Tryz.prog 21 #[.slice a m c] w (GetEnd4 bs w):=by
 obtain ⟨W0,hW0⟩:∃ W0,W0=w.alloc (.cells #[.slice none 0 0,.slice none 0 0] 27):=⟨_,rfl⟩
 have hz0:w.heap.size+1≤W0.heap.size:=by rw [hW0];simp
 have hb0:Below w.heap.size w W0:=by rw [hW0];exact (Below.refl _ w).alloc (Nat.le_refl _) _
 have b0:W0.heap[w.heap.size]?=some (.cells #[.slice none 0 0,.slice none 0 0] 27 (0,0)):=by rw [hW0];exact heap_alloc_new w _
 have hNew:=fnew_any a m c bs W0 hm hm' (hB.keep (below_keep hb0))
 obtain ⟨n1,l1,e1⟩:=gByte_nat (bs,0)
 have hc:gConsts (bs,0)=gMany gText n1 (gByte (bs,0)).2:=by unfold gConsts;rw [e1,Int.toNat_natCast]
 have hS:gScr (bs,0)=(⟨(gConsts (bs,0)).1,(gFuncs (gConsts (bs,0)).2).1⟩,(gFuncs (gConsts (bs,0)).2).2):=rfl
 obtain ⟨n2,l2,e2⟩:=gByte_nat (gConsts (bs,0)).2
 have hf:gFuncs (gConsts (bs,0)).2=gMany gFn n2 (gByte (gConsts (bs,0)).2).2:=by unfold gFuncs;rw [e2,Int.toNat_natCast]
 have hok:getOk bs=(decide (doneOf (gScr (bs,0)).2.1 (gScr (bs,0)).2.2=0) && (gScr (bs,0)).1.right):=rfl
 have hsf:=gScr_fits (bs,0)
 have hi64:=gScr_i64 (bs,0)
 have hno:=fun h=>get_no (bs:=bs) h
 have hyes:=fun h=>get_yes (bs:=bs) h
 have hBy0:∀ W q g,FS W q g bs (bs,0)→_:=fun W q g HW=>fbyte_s q g bs (bs,0) W HW
 rw [e1] at hBy0
 rw [hf,hc] at hS
 generalize (gByte (bs,0)).2=s1 at *
 rw [hc] at e2
 have hBy1:∀ W q g,FS W q g bs (gMany gText n1 s1).2→_:=fun W q g HW=>fbyte_s q g bs (gMany gText n1 s1).2 W HW
 rw [e2] at hBy1
 generalize hs2:(gByte (gMany gText n1 s1).2).2=s2 at *
 have HS:=hid hS
 clear hS hf hc e1 e2
 go_enter Tryz.func21,Tryz.ntmps21
 go_wp2_with fail
 rw [← hW0]
 clear hW0
 refine hNew.mono ?_
 clear hNew
 rintro e w1 ⟨q,g0,rfl,hq,_,HR0,hb1⟩
 have b1:=(hb1.block _ (lt_of_block b0)).trans b0
 have lb1:=lt_of_block b1
 obtain ⟨g,HR,hgl⟩:=HR0.low w.heap.size (by omega) lb1
 have lq:q<w1.heap.size:=by obtain ⟨⟨ao,cap,hE,_⟩,_⟩:=HR;exact lt_of_block hE
 have F1:FS w1 q g bs (bs,0):=⟨0,HR,rfl⟩
 obtain ⟨B,hBe⟩:∃ B,B=w1.heap.size:=⟨_,rfl⟩
 have S1:GetSt w q g bs B (w1.alloc (.cells #[.slice none 0 0,.slice none 0 0] 27)) (bs,0) (.slice none 0 0) (.slice none 0 0) [] [] []:=by
  rw [hBe]
  exact ⟨heap_alloc_new w1 _,World.ownsRow_nil _ _ _ _,World.ownsRow_nil _ _ _ _,FRow.nil _,F1.chg (Chg.alloc w1 _ (fun _=>False)) id id,(hb0.trans (hb1.mono hb0.size)).alloc (by omega) _,by rw [Below.heap_alloc _ _ _ lb1];exact b1,by omega,by omega,by omega⟩
 have hU:=hBy0 _ _ _ S1.fs
 clear hBy0 HR0 HR F1 hb1 b0 b1
 go_wp2_with fail
 rw [← hBe]
 refine hU.mono ?_
 clear hU
 rintro e w2 ⟨rfl,F2,c2⟩
 have S2:=S1.call c2 F2
 clear S1 F2 c2 hBe lq hgl lb1 hb0
 go_wp2_with fail
 go_loopw [7] (fun i wr=>∃ (k:Nat) (L:List (List UInt8)) (s:RSt) (c0:Value),k≤n1∧i=.int .i64 k∧L.length=k∧Hid (gMany gText n1 s1=(L++(gMany gText (n1 - k) s).1,(gMany gText (n1 - k) s).2))∧GetSt w q g bs B wr s c0 (.slice none 0 0) L [] []) (fun i _=>n1 - (intOf i).toNat)
 case atStart=>exact ⟨0,[],s1,.slice none 0 0,Nat.zero_le _,rfl,rfl,hid (by simp),S2⟩
 case round =>
  obtain ⟨k,L,s,c0,hk,rfl,hL,HM,S⟩:=hrel
  obtain ⟨ce,hqw⟩:=S.fs.cell
  by_cases hgo:k<n1∧s.2=0
  ·obtain ⟨hlt,herr⟩:=hgo
   have HM':=hid (gMany_round hlt herr HM.out)
   rw [herr] at ce
   have HV:=hid (manyS_snoc L (gText s).1)
   have hO:=ftext_s q g bs s wr.drew S.drew.fs
   obtain ⟨x,hx⟩:∃ x,x=(gText s).1:=⟨_,rfl⟩
   obtain ⟨s',hs'⟩:∃ s',s'=(gText s).2:=⟨_,rfl⟩
   rw [← hx] at hO HV HM'
   rw [← hs'] at hO HM'
   clear HM hx hs'
   obtain ⟨i0,i1,i2,i3⟩:=S.cells
   have zB:=S.size
   obtain ⟨xs,hxs⟩:∃ xs,xs=cellsS L:=⟨_,rfl⟩
   rw [← hxs] at HV
   have HX:=hid hxs
   clear hxs
   obtain ⟨y0,d0,hc0,_⟩:=row_form S.q0
   rw [hL] at hc0
   subst hc0
   have SD:=S.drew
   go_upto_region 7 with fail
   have r0:=SD.q0
   rw [hL,← HX.out] at r0
   go_region_law (first
    | (refine step_call2 (by rfl) 39 _ _ (by rfl) (Go.Proofs.enters_of Tryz.func39 (by kernel_rfl) rfl) #[.pointer (some ⟨q,0,none⟩)] (by rfl) _ hO ?_;rintro e w8 ⟨rfl,F8,c8⟩;refine ⟨_,rfl,?_⟩;clear hO;have S8:=SD.call c8 F8;obtain ⟨j0,j1,j2,j3⟩:=S8.cells;have z8:=S8.size;have r8:=S8.q0;rw [hL,← HX.out] at r8;have zB8:B<w8.heap.size:=(by omega))
    | (refine step_appN _ (by rfl) (.tmp 27) (.tmp 30) 24 (by rfl) elemN_str (B+1) _ k xs (by rfl) (World.ownsRow.alloc r8 _) _ (by rfl) 1 [Value.string ⟨x.toArray⟩] (.inr ⟨⟨w8.heap.size,0,none⟩,1,rfl,cells_new4 w8 [Value.string ⟨x.toArray⟩] 9 _ rfl⟩) rfl (by simp [Value.oneCell']) (by unfold maxLen;omega) (by omega) (by simp;omega) ?_;intro v' w12 hr12 hs12;obtain ⟨y12,t12,rfl,_⟩:=row_form hr12;have b12:=step_blk (World.ownsRow.alloc r8 _) hs12 (S8.alloc (.cells #[.string ⟨x.toArray⟩] 9)).blk (by decide);obtain ⟨m0,m1,m2,m3⟩:=cells2 b12))
   all_goals
    have S12:=(S8.alloc (.cells #[.string ⟨x.toArray⟩] 9)).app0 hs12 (P:=L++[x]) (by rw [HV.out];simpa [hL] using hr12) rfl
    go_wp2_with fail
    exact ⟨⟨k+1,L++[x],s',_,by omega,by go_num,by simp [hL],HM',S12⟩,by simp [intOf];omega⟩
  ·have hcond:k=n1∨(k<n1∧¬ s.2=0):=by
    by_cases h:k<n1
    ·exact .inr ⟨h,fun e=>hgo ⟨h,e⟩⟩
    ·exact .inl (by omega)
   have hE:=gMany_end (hcond.imp id And.right) HM.out
   clear HM hgo
   have HE1:=hid hE
   have hBy:=hBy1
   rw [hE] at hBy
   have hU:=hBy _ _ _ S.fs
   clear hBy hBy1
   obtain ⟨y1',d1',hc0',_⟩:=row_form S.q0
   have hcond2:(¬ k<n1)∨(k<n1∧(s.2 == 0)=false):=by
    rcases hcond with h | h
    ·exact .inl (by omega)
    ·exact .inr ⟨h.1,by simp [h.2]⟩
   clear hcond
   generalize s.2=er at ce hcond2
   rcases hcond2 with hc | ⟨hc,hne⟩
   all_goals
    go_wp2_with (go_at_call 38;refine hU.mono ?_;clear hU;rintro e w20 ⟨rfl,F20,c20⟩)
    have S20:=S.call c20 F20
    go_loopw [8] (fun i wr=>∃ (k:Nat) (M:List Fn) (s:RSt) (c1:Value) (xs:List Value),k≤n2∧i=.int .i64 k∧M.length=k∧Hid (gMany gFn n2 s2=(M++(gMany gFn (n2 - k) s).1,(gMany gFn (n2 - k) s).2))∧GetSt w q g bs B wr s c0 c1 L M xs) (fun i _=>n2 - (intOf i).toNat)
    case atStart=>exact ⟨0,[],s2,.slice none 0 0,[],Nat.zero_le _,rfl,rfl,hid (by simp),S20⟩
    case round =>
     obtain ⟨k,M,t,c1,xs,hk,rfl,hM,HM,T⟩:=hrel
     obtain ⟨ce,hqw⟩:=T.fs.cell
     by_cases hlt:k<n2
     ·by_cases herr:t.2=0
      ·have HM':=hid (gMany_round hlt herr HM.out)
       rw [herr] at ce
       have hO:=rfunction_any q g bs t wr.drew T.drew.fs (by have:=T.hg;have:=T.size;show g<wr.heap.size;omega)
       obtain ⟨x,hx⟩:∃ x,x=(gFn t).1:=⟨_,rfl⟩
       obtain ⟨s',hs'⟩:∃ s',s'=(gFn t).2:=⟨_,rfl⟩
       rw [← hx] at hO HM'
       rw [← hs'] at hO HM'
       clear HM hx hs'
       obtain ⟨i0,i1,i2,i3⟩:=T.cells
       have zB:=T.size
       obtain ⟨y1,d1,hc1,_⟩:=row_form T.q1
       rw [hM] at hc1
       subst hc1
       have TD:=T.drew
       go_upto_region 12 with fail
       go_region_law (first
        | (refine step_call2 (by rfl) 40 _ _ (by rfl) (Go.Proofs.enters_of Tryz.func40 (by kernel_rfl) rfl) #[.pointer (some ⟨q,0,none⟩)] (by rfl) _ hO ?_;rintro e w28 ⟨⟨u0,u1,u2,u3,rfl,hQ⟩,F28,c28⟩;refine ⟨_,rfl,?_⟩;clear hO;have T8:=TD.call c28 F28;obtain ⟨j0,j1,j2,j3⟩:=T8.cells;have z28:=T8.size;have r28:=T8.q1;rw [hM] at r28;have h4:=hQ.forms;obtain ⟨g0',p0',rfl,_⟩:=row_form hQ.1;obtain ⟨g1',p1',rfl,_⟩:=row_form hQ.2.1;obtain ⟨g2',p2',rfl,_⟩:=row_form hQ.2.2.1;obtain ⟨g3',p3',rfl,_⟩:=row_form hQ.2.2.2;have zB8:B<w28.heap.size:=(by omega))
        | (refine step_appN _ (by rfl) (.tmp 48) (.tmp 51) 25 (by rfl) elemN_fn (B+1) _ k xs (by rfl) (World.ownsRow.alloc r28 _) _ (by rfl) 1 [.slice g0' x.p.length p0',.slice g1' x.r.length p1',.slice g2' x.l.length p2',.slice g3' x.code.length p3'] (.inr ⟨⟨w28.heap.size,0,none⟩,1,rfl,cells_new4 w28 [.slice g0' x.p.length p0',.slice g1' x.r.length p1',.slice g2' x.l.length p2',.slice g3' x.code.length p3'] 49 _ rfl⟩) rfl h4 (by unfold maxLen;omega) (by omega) (by simp;omega) ?_;intro v' w32 hr32 hs32;obtain ⟨y32,t32,rfl,_⟩:=row_form hr32;have b32:=step_blk (World.ownsRow.alloc r28 _) hs32 (T8.alloc (.cells #[.slice g0' x.p.length p0',.slice g1' x.r.length p1',.slice g2' x.l.length p2',.slice g3' x.code.length p3'] 49)).blk (by decide);obtain ⟨m0,m1,m2,m3⟩:=cells2 b32))
       all_goals
        have FR:=getf_step (by have:=TD.hq;omega) TD.size TD.q1 TD.fr c28 hQ hs32
        have T12:=(T8.alloc (.cells #[.slice g0' x.p.length p0',.slice g1' x.r.length p1',.slice g2' x.l.length p2',.slice g3' x.code.length p3'] 49)).app1 hs32 (P:=M++[x]) (by simpa [hM] using hr32) FR
        go_wp2_with fail
        exact ⟨⟨k+1,M++[x],s',_,_,by omega,by go_num,by simp [hM],HM',T12⟩,by simp [intOf];omega⟩
      ·have hne2:(t.2 == 0)=false:=by simp [herr]
       have hE2:=gMany_end (.inr herr) HM.out
       obtain ⟨er2,her2⟩:∃ e,e=t.2:=⟨_,rfl⟩
       rw [← her2] at ce hne2
       clear her2
       have HG:Hid (gScr (bs,0)=(⟨L,M⟩,t)):=hid (by rw [HS.out,HE1.out,hE2])
       have hok':=hok
       have hsf':=hsf
       have hyes':=hyes
       have hi':=hi64
       rw [HG.out] at hok' hsf' hyes' hi'
       clear hok hsf hyes hi64 HM
       have b7:=T.res
       have isT:=T.is
       have hD:=fdone_s q g bs t wr T.fs
       have isT':=isT
       obtain ⟨⟨y0,d0,hc0,_⟩,⟨y1,d1,hc1,_⟩⟩:=isT'
       simp only at hc0 hc1
       subst hc0
       subst hc1
       have bT:=T.blk
       have eB:=T.hB
       have keep5:∀ W,Below wr.heap.size wr W→(W.cell? ⟨w.heap.size,0,none⟩=some (.slice none 0 0)∧W.cell? ⟨w.heap.size,1,none⟩=some (.slice none 0 0)∧W.frozen? ⟨w.heap.size,0,none⟩=false∧W.frozen? ⟨w.heap.size,1,none⟩=false)∧W.cell? ⟨B,0,none⟩=some (.slice y0 L.length d0)∧W.cell? ⟨B,1,none⟩=some (.slice y1 M.length d1):=fun W hW=>by
        obtain ⟨a0,a1,_,_⟩:=cells2 ((hW.block _ (lt_of_block bT)).trans bT)
        exact ⟨cells2 ((hW.block _ (lt_of_block b7)).trans b7),a0,a1⟩
       have fin0:getOk bs=false→∀ W,Below wr.heap.size wr W→((W.setCell ⟨w.heap.size,0,none⟩ (.slice none 0 0)).setCell ⟨w.heap.size,1,none⟩ (.slice none 0 0)).cell? ⟨w.heap.size,0,none⟩=some (.slice none 0 0)∧((W.setCell ⟨w.heap.size,0,none⟩ (.slice none 0 0)).setCell ⟨w.heap.size,1,none⟩ (.slice none 0 0)).cell? ⟨w.heap.size,1,none⟩=some (.slice none 0 0)∧GetEnd4 bs w (.returned (.tuple #[.agg #[.slice none 0 0,.slice none 0 0],.int .i64 30])) ((W.setCell ⟨w.heap.size,0,none⟩ (.slice none 0 0)).setCell ⟨w.heap.size,1,none⟩ (.slice none 0 0)):=fun hf W hW=>by
        have b5:=(hW.block _ (lt_of_block b7)).trans b7
        obtain ⟨j0,j1,_,_⟩:=cells2 (set2_1 (u:=.slice none 0 0) (set2_0 (u:=.slice none 0 0) b5))
        have hb:=((T.below.trans (hW.mono T.below.size)).setCell (p:=⟨w.heap.size,0,none⟩) (Nat.le_refl _) (.slice none 0 0)).setCell (p:=⟨w.heap.size,1,none⟩) (Nat.le_refl _) (.slice none 0 0)
        refine ⟨j0,j1,⟨(.slice none 0 0),(.slice none 0 0),?_,?_⟩,hb⟩
        ·rw [(hno hf).1]
        ·rw [(hno hf).2];exact scr_none _
       have fin1:getOk bs=true→∀ W,Below wr.heap.size wr W→((W.setCell ⟨w.heap.size,0,none⟩ (.slice y0 L.length d0)).setCell ⟨w.heap.size,1,none⟩ (.slice y1 M.length d1)).cell? ⟨w.heap.size,0,none⟩=some (.slice y0 L.length d0)∧((W.setCell ⟨w.heap.size,0,none⟩ (.slice y0 L.length d0)).setCell ⟨w.heap.size,1,none⟩ (.slice y1 M.length d1)).cell? ⟨w.heap.size,1,none⟩=some (.slice y1 M.length d1)∧GetEnd4 bs w (.returned (.tuple #[.agg #[.slice y0 L.length d0,.slice y1 M.length d1],.int .i64 0])) ((W.setCell ⟨w.heap.size,0,none⟩ (.slice y0 L.length d0)).setCell ⟨w.heap.size,1,none⟩ (.slice y1 M.length d1)):=fun hf W hW=>by
        have b5:=(hW.block _ (lt_of_block b7)).trans b7
        obtain ⟨j0,j1,_,_⟩:=cells2 (set2_1 (u:=.slice y1 M.length d1) (set2_0 (u:=.slice y0 L.length d0) b5))
        have k5:=(Chg.setCell W ⟨w.heap.size,0,none⟩ (.slice y0 L.length d0)).trans (Chg.setCell _ ⟨w.heap.size,1,none⟩ (.slice y1 M.length d1)) fun _ _ e=>e
        have hb:=((T.below.trans (hW.mono T.below.size)).setCell (p:=⟨w.heap.size,0,none⟩) (Nat.le_refl _) (.slice y0 L.length d0)).setCell (p:=⟨w.heap.size,1,none⟩) (Nat.le_refl _) (.slice y1 M.length d1)
        have I5:=(isT.keep (upFrom_chg (Chg.of_below (S:=fun _=>False) hW) (fun _ e=>e.elim) (Nat.le_refl _))).keep (upFrom_chg k5 (B':=0) (fun i (e:i=w.heap.size)=>by omega) (Nat.zero_le _))
        refine ⟨j0,j1,⟨(.slice y0 L.length d0),(.slice y1 M.length d1),?_,?_⟩,hb⟩
        ·rw [(hyes' hf).1]
        ·rw [(hyes' hf).2];exact I5.keep upFrom_le
       have hRt:∀ W,Below wr.heap.size wr W→Calls Tryz.prog 24 #[.agg #[.slice y0 L.length d0,.slice y1 M.length d1]] W fun e w'=>e=.returned (.bool (Scr.right ⟨L,M⟩))∧Below W.heap.size W w':=fun W hW=>rright4_any ⟨L,M⟩ _ _ W ((isT.keep upFrom_le).keep (below_keep hW)) hsf' hi'
       clear hL hM
       clear T isT bT b7
       by_cases hd:doneOf t.1 t.2=0
       ·rw [hd] at hD
        cases hr:Scr.right ⟨L,M⟩ with
        | false =>
         have hf:getOk bs=false:=by rw [hok',hr];simp
         rw [hr] at hRt
         go_wp2_with (first | (go_at_call 41;refine hD.mono ?_;rintro e w40 ⟨rfl,hb40⟩;clear hD;obtain ⟨⟨r0,r1,r2,r3⟩,r4,r5⟩:=keep5 w40 hb40;have hR40:=hRt w40 hb40) | (go_at_call 24;refine hR40.mono ?_;rintro e w41 ⟨rfl,hb41'⟩;have hb41:=hb40.trans (hb41'.mono hb40.size);obtain ⟨⟨v0,v1,v2,v3⟩,v4,v5⟩:=keep5 w41 hb41))
         obtain ⟨j0,j1,F⟩:=fin0 hf w41 hb41
         exact ret_scr2 rfl rfl rfl rfl j0 j1 F
        | true =>
         have hf:getOk bs=true:=by rw [hok',hr,hd];rfl
         rw [hr] at hRt
         go_wp2_with (first | (go_at_call 41;refine hD.mono ?_;rintro e w40 ⟨rfl,hb40⟩;clear hD;obtain ⟨⟨r0,r1,r2,r3⟩,r4,r5⟩:=keep5 w40 hb40;have hR40:=hRt w40 hb40) | (go_at_call 24;refine hR40.mono ?_;rintro e w41 ⟨rfl,hb41'⟩;have hb41:=hb40.trans (hb41'.mono hb40.size);obtain ⟨⟨v0,v1,v2,v3⟩,v4,v5⟩:=keep5 w41 hb41))
         obtain ⟨j0,j1,F⟩:=fin1 hf w41 hb41
         exact ret_scr2 rfl rfl rfl rfl j0 j1 F
       ·have hf:getOk bs=false:=by rw [hok',decide_eq_false hd];rfl
        have hnd:(doneOf t.1 t.2 != 0)=true:=by simp [hd]
        generalize doneOf t.1 t.2=dn at hD hnd
        go_wp2_with (first | (go_at_call 41;refine hD.mono ?_;rintro e w40 ⟨rfl,hb40⟩;clear hD;obtain ⟨⟨r0,r1,r2,r3⟩,r4,r5⟩:=keep5 w40 hb40))
        obtain ⟨j0,j1,F⟩:=fin0 hf w40 hb40
        exact ret_scr2 rfl rfl rfl rfl j0 j1 F
     ·obtain rfl:k=n2:=by omega
      have hE2:=gMany_end (.inl rfl) HM.out
      have HG:Hid (gScr (bs,0)=(⟨L,M⟩,t)):=hid (by rw [HS.out,HE1.out,hE2])
      have hok':=hok
      have hsf':=hsf
      have hyes':=hyes
      have hi':=hi64
      rw [HG.out] at hok' hsf' hyes' hi'
      clear hok hsf hyes hi64 HM
      have b7:=T.res
      have isT:=T.is
      have hD:=fdone_s q g bs t wr T.fs
      have isT':=isT
      obtain ⟨⟨y0,d0,hc0,_⟩,⟨y1,d1,hc1,_⟩⟩:=isT'
      simp only at hc0 hc1
      subst hc0
      subst hc1
      have bT:=T.blk
      have eB:=T.hB
      have keep5:∀ W,Below wr.heap.size wr W→(W.cell? ⟨w.heap.size,0,none⟩=some (.slice none 0 0)∧W.cell? ⟨w.heap.size,1,none⟩=some (.slice none 0 0)∧W.frozen? ⟨w.heap.size,0,none⟩=false∧W.frozen? ⟨w.heap.size,1,none⟩=false)∧W.cell? ⟨B,0,none⟩=some (.slice y0 L.length d0)∧W.cell? ⟨B,1,none⟩=some (.slice y1 M.length d1):=fun W hW=>by
       obtain ⟨a0,a1,_,_⟩:=cells2 ((hW.block _ (lt_of_block bT)).trans bT)
       exact ⟨cells2 ((hW.block _ (lt_of_block b7)).trans b7),a0,a1⟩
      have fin0:getOk bs=false→∀ W,Below wr.heap.size wr W→((W.setCell ⟨w.heap.size,0,none⟩ (.slice none 0 0)).setCell ⟨w.heap.size,1,none⟩ (.slice none 0 0)).cell? ⟨w.heap.size,0,none⟩=some (.slice none 0 0)∧((W.setCell ⟨w.heap.size,0,none⟩ (.slice none 0 0)).setCell ⟨w.heap.size,1,none⟩ (.slice none 0 0)).cell? ⟨w.heap.size,1,none⟩=some (.slice none 0 0)∧GetEnd4 bs w (.returned (.tuple #[.agg #[.slice none 0 0,.slice none 0 0],.int .i64 30])) ((W.setCell ⟨w.heap.size,0,none⟩ (.slice none 0 0)).setCell ⟨w.heap.size,1,none⟩ (.slice none 0 0)):=fun hf W hW=>by
       have b5:=(hW.block _ (lt_of_block b7)).trans b7
       obtain ⟨j0,j1,_,_⟩:=cells2 (set2_1 (u:=.slice none 0 0) (set2_0 (u:=.slice none 0 0) b5))
       have hb:=((T.below.trans (hW.mono T.below.size)).setCell (p:=⟨w.heap.size,0,none⟩) (Nat.le_refl _) (.slice none 0 0)).setCell (p:=⟨w.heap.size,1,none⟩) (Nat.le_refl _) (.slice none 0 0)
       refine ⟨j0,j1,⟨(.slice none 0 0),(.slice none 0 0),?_,?_⟩,hb⟩
       ·rw [(hno hf).1]
       ·rw [(hno hf).2];exact scr_none _
      have fin1:getOk bs=true→∀ W,Below wr.heap.size wr W→((W.setCell ⟨w.heap.size,0,none⟩ (.slice y0 L.length d0)).setCell ⟨w.heap.size,1,none⟩ (.slice y1 M.length d1)).cell? ⟨w.heap.size,0,none⟩=some (.slice y0 L.length d0)∧((W.setCell ⟨w.heap.size,0,none⟩ (.slice y0 L.length d0)).setCell ⟨w.heap.size,1,none⟩ (.slice y1 M.length d1)).cell? ⟨w.heap.size,1,none⟩=some (.slice y1 M.length d1)∧GetEnd4 bs w (.returned (.tuple #[.agg #[.slice y0 L.length d0,.slice y1 M.length d1],.int .i64 0])) ((W.setCell ⟨w.heap.size,0,none⟩ (.slice y0 L.length d0)).setCell ⟨w.heap.size,1,none⟩ (.slice y1 M.length d1)):=fun hf W hW=>by
       have b5:=(hW.block _ (lt_of_block b7)).trans b7
       obtain ⟨j0,j1,_,_⟩:=cells2 (set2_1 (u:=.slice y1 M.length d1) (set2_0 (u:=.slice y0 L.length d0) b5))
       have k5:=(Chg.setCell W ⟨w.heap.size,0,none⟩ (.slice y0 L.length d0)).trans (Chg.setCell _ ⟨w.heap.size,1,none⟩ (.slice y1 M.length d1)) fun _ _ e=>e
       have hb:=((T.below.trans (hW.mono T.below.size)).setCell (p:=⟨w.heap.size,0,none⟩) (Nat.le_refl _) (.slice y0 L.length d0)).setCell (p:=⟨w.heap.size,1,none⟩) (Nat.le_refl _) (.slice y1 M.length d1)
       have I5:=(isT.keep (upFrom_chg (Chg.of_below (S:=fun _=>False) hW) (fun _ e=>e.elim) (Nat.le_refl _))).keep (upFrom_chg k5 (B':=0) (fun i (e:i=w.heap.size)=>by omega) (Nat.zero_le _))
       refine ⟨j0,j1,⟨(.slice y0 L.length d0),(.slice y1 M.length d1),?_,?_⟩,hb⟩
       ·rw [(hyes' hf).1]
       ·rw [(hyes' hf).2];exact I5.keep upFrom_le
      have hRt:∀ W,Below wr.heap.size wr W→Calls Tryz.prog 24 #[.agg #[.slice y0 L.length d0,.slice y1 M.length d1]] W fun e w'=>e=.returned (.bool (Scr.right ⟨L,M⟩))∧Below W.heap.size W w':=fun W hW=>rright4_any ⟨L,M⟩ _ _ W ((isT.keep upFrom_le).keep (below_keep hW)) hsf' hi'
      clear hL hM
      clear T isT bT b7
      by_cases hd:doneOf t.1 t.2=0
      ·rw [hd] at hD
       cases hr:Scr.right ⟨L,M⟩ with
       | false =>
        have hf:getOk bs=false:=by rw [hok',hr];simp
        rw [hr] at hRt
        go_wp2_with (first | (go_at_call 41;refine hD.mono ?_;rintro e w40 ⟨rfl,hb40⟩;clear hD;obtain ⟨⟨r0,r1,r2,r3⟩,r4,r5⟩:=keep5 w40 hb40;have hR40:=hRt w40 hb40) | (go_at_call 24;refine hR40.mono ?_;rintro e w41 ⟨rfl,hb41'⟩;have hb41:=hb40.trans (hb41'.mono hb40.size);obtain ⟨⟨v0,v1,v2,v3⟩,v4,v5⟩:=keep5 w41 hb41))
        obtain ⟨j0,j1,F⟩:=fin0 hf w41 hb41
        exact ret_scr2 rfl rfl rfl rfl j0 j1 F
       | true =>
        have hf:getOk bs=true:=by rw [hok',hr,hd];rfl
        rw [hr] at hRt
        go_wp2_with (first | (go_at_call 41;refine hD.mono ?_;rintro e w40 ⟨rfl,hb40⟩;clear hD;obtain ⟨⟨r0,r1,r2,r3⟩,r4,r5⟩:=keep5 w40 hb40;have hR40:=hRt w40 hb40) | (go_at_call 24;refine hR40.mono ?_;rintro e w41 ⟨rfl,hb41'⟩;have hb41:=hb40.trans (hb41'.mono hb40.size);obtain ⟨⟨v0,v1,v2,v3⟩,v4,v5⟩:=keep5 w41 hb41))
        obtain ⟨j0,j1,F⟩:=fin1 hf w41 hb41
        exact ret_scr2 rfl rfl rfl rfl j0 j1 F
      ·have hf:getOk bs=false:=by rw [hok',decide_eq_false hd];rfl
       have hnd:(doneOf t.1 t.2 != 0)=true:=by simp [hd]
       generalize doneOf t.1 t.2=dn at hD hnd
       go_wp2_with (first | (go_at_call 41;refine hD.mono ?_;rintro e w40 ⟨rfl,hb40⟩;clear hD;obtain ⟨⟨r0,r1,r2,r3⟩,r4,r5⟩:=keep5 w40 hb40))
       obtain ⟨j0,j1,F⟩:=fin0 hf w40 hb40
       exact ret_scr2 rfl rfl rfl rfl j0 j1 F
end Go.Proofs.YtpmlnkjamhelnaaGreat
