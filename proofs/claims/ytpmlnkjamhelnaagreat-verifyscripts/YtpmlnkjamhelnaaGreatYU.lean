/- Layer 9: the document's Funcs and Total. -/
import Derived.Test.YtpmlnkjamhelnaaGreatYR
import Derived.Test.YtpmlnkjamhelnaaGreatXR
import Derived.Test.YtpmlnkjamhelnaaGreatYN
import Derived.Test.YtpmlnkjamhelnaaGreatCTg
namespace Go.Proofs.YtpmlnkjamhelnaaGreat
open Go.RowKit
theorem cell_set9 {W:World}{b g o f:Nat}{u:Value}(h:b≠g):(W.setCell ⟨g,f,none⟩ u).cell? ⟨b,o,none⟩=W.cell? ⟨b,o,none⟩:=by
 have:=heap_setCell_other W ⟨g,f,none⟩ b u (fun e=>h e)
 unfold World.cell?
 simp only [this]
set_option maxRecDepth 100000 in
set_option maxHeartbeats 2000000 in
theorem rfuncs9_any (s:Scr)(V0 V1:Value)(w:World)(hs:ScIs w.cell? s V0 V1)(hsf:s.fits)(hI64:∀ f ∈ s.funcs,∀ x ∈ f.code,-9223372036854775808≤x.2∧x.2≤9223372036854775807):Calls Tryz.prog 58 #[.agg #[V0,V1]] w (FunEnd (funS s) w):=by
 obtain ⟨⟨a0,c0,rfl,n0⟩,⟨a1,c1,rfl,n1⟩⟩:=hs
 have b1:=(Below.refl _ w).alloc (Nat.le_refl _) (.cells #[.slice a0 s.consts.length c0,.slice a1 s.funcs.length c1] 27)
 have hG:=rorder_any s _ _ (w.alloc (.cells #[.slice a0 s.consts.length c0,.slice a1 s.funcs.length c1] 27)) ⟨⟨a0,c0,rfl,n0.keep (below_keep b1)⟩,⟨a1,c1,rfl,n1.keep (below_keep b1)⟩⟩ hsf hI64
 have e0:=heap_alloc_new w (.cells #[.slice a0 s.consts.length c0,.slice a1 s.funcs.length c1] 27)
 by_cases hr:s.right=true
 ·obtain ⟨r1,r2,r3⟩:=right_calls hr
  cases ho:ordS s.funcs.length (gF s) with
  | none =>
   have HG:Hid (Calls Tryz.prog 26 #[.agg #[.slice a0 s.consts.length c0,.slice a1 s.funcs.length c1]] (w.alloc (.cells #[.slice a0 s.consts.length c0,.slice a1 s.funcs.length c1] 27)) fun e w1=>e=.returned (.tuple #[.slice none 0 0,.int .i64 34])∧Hid (FunEnd (funS s) w (.returned (.tuple #[.slice none 0 0,.int .i64 34])) w1)):=hid9 (hG.mono fun e w1 ⟨h1,h2⟩=>by
    rw [if_pos hr,ho] at h2
    exact ⟨h2,hid9 (by rw [fun_none hr ho];exact ⟨none,0,rfl,.inl rfl,b1.trans (h1.mono b1.size)⟩)⟩)
   generalize s.consts.length=cl at HG ⊢
   generalize s.funcs.length=fl at HG ⊢
   clear hG hr ho r1 r2 r3 n0 n1 hsf b1 e0
   go_enter Tryz.func58,Tryz.ntmps58
   go_wp2_with (first
    | (go_at_call 26;refine HG.out.mono ?_;clear HG;rintro e w1 ⟨rfl,HE⟩)
    | fail)
   go_ret2
   exact HE.out
  | some o =>
   obtain ⟨hol,hTo⟩:=ord_told (n:=s.funcs.length) (g:=gF s) ho
   have HG:Hid (Calls Tryz.prog 26 #[.agg #[.slice a0 s.consts.length c0,.slice a1 s.funcs.length c1]] (w.alloc (.cells #[.slice a0 s.consts.length c0,.slice a1 s.funcs.length c1] 27)) fun e w1=>∃ oa oc,e=.returned (.tuple #[.slice oa s.funcs.length oc,.int .i64 0])∧Hid (NsAt w1.cell? oa (rowI o)∧Below w.heap.size w w1∧w1.heap[w.heap.size]?=some (.cells #[.slice a0 s.consts.length c0,.slice a1 s.funcs.length c1] 27 (0,0)))):=hid9 (hG.mono fun e w1 ⟨h1,h2⟩=>by
    rw [if_pos hr,ho] at h2
    obtain ⟨oa,oc,e1,h3⟩:=h2
    rw [hol] at e1
    exact ⟨oa,oc,e1,hid9 ⟨h3,b1.trans (h1.mono b1.size),(h1.block _ (heap_lt e0)).trans e0⟩⟩)
   have HFn:Hid (∀ W,Below w.heap.size w W→∀ f<s.funcs.length,∃ fb fo ca cc,a1=some ⟨fb,fo,none⟩∧W.cell? ⟨fb,fo+f*4+3,none⟩=some (.slice ca (codeS s f).length cc)∧IsAt W.cell? ca (codeS s f)):=hid9 fun W hW f hf=>code_at (n1.keep (below_keep hW)) hf
   have HMk:Hid (∀ W:World,∃ W2,(Instr.makeSlice 28 (.int .i64 (s.funcs.length:Int)) (.int .i64 (s.funcs.length:Int))).run Tryz.prog W=.ok (.slice (some ⟨W.heap.size,0,none⟩) s.funcs.length s.funcs.length) W2∧Fill W2 W.heap.size 3 s.funcs.length (fun _=>.int .i64 0)∧Below W.heap.size W W2):=hid9 fun W=>made8 W 28 3 (.int .i64 0) 8 s.funcs.length Tryz.underlying28 (by kernel_rfl) rfl (by omega) (by omega)
   obtain ⟨fl,hfe⟩:∃ fl,fl=s.funcs.length:=⟨_,rfl⟩
   have HFl:=hid9 hfe
   rw [← hfe] at HG HMk HFn r1 r2 ⊢
   have HT:=hid9 (And.intro hol hTo)
   have HR:=hid9 hr
   have HO:=hid9 ho
   generalize s.consts.length=cl at HG ⊢
   clear hG hr ho r3 n0 n1 hsf b1 e0 hol hTo hfe
   go_enter Tryz.func58,Tryz.ntmps58
   go_wp2_with (first
    | (go_at_call 26;refine HG.out.mono ?_;clear HG;rintro e w1 ⟨oa,oc,rfl,H1⟩)
    | fail)
   go_loopw [6] (fun iv wr=>∃ k:Nat,iv=.int .i64 k∧k≤fl∧Hid (Below w1.heap.size w1 wr∧∀ f<k,goodS (codeS s f)=true)) (fun iv _=>fl - (intOf iv).toNat)
   case atStart=>exact ⟨0,rfl,Nat.zero_le _,hid9 ⟨Below.refl _ _,fun f hf=>by omega⟩⟩
   case round =>
    obtain ⟨k,rfl,hk,HL⟩:=hrel
    have HBw:Hid (Below w.heap.size w wr):=hid9 (H1.out.2.1.trans (HL.out.1.mono H1.out.2.1.size))
    have hbox:wr.heap[w.heap.size]?=some (.cells #[.slice a0 cl c0,.slice a1 fl c1] 27 (0,0)):=(HL.out.1.block _ (heap_lt H1.out.2.2)).trans H1.out.2.2
    have x1:wr.cell? ⟨w.heap.size,1,none⟩=some (.slice a1 fl c1):=Lib.cell_of_heap hbox 1
    by_cases hlt:k<fl
    ·obtain ⟨fb,fo,ca,cc,ea,q1,q2⟩:=HFn.out wr HBw.out k hlt
     subst ea
     have HM:Hid (Calls Tryz.prog 89 #[.slice ca (codeS s k).length cc] wr (MatchEnd (codeS s k) wr)):=hid9 (rmatch_any (codeS s k) ca cc _ rfl (by have:=code_len HR.out k;omega) wr q2)
     by_cases hg:goodS (codeS s k)=true
     ·have HM2:Hid (Calls Tryz.prog 89 #[.slice ca (codeS s k).length cc] wr fun e W=>∃ ma mn mc,e=.returned (.tuple #[.slice ma mn mc,.int .i64 0])∧Hid (Below w1.heap.size w1 W∧∀ f<k+1,goodS (codeS s f)=true)):=hid9 (HM.out.mono fun e W ⟨h1,h2⟩=>by
       rw [if_pos hg] at h1
       obtain ⟨g,_,h1,_⟩:=h1
       refine ⟨_,_,_,h1,hid9 ⟨HL.out.1.trans (h2.mono HL.out.1.size),fun f hf=>?_⟩⟩
       rcases Nat.lt_or_ge f k with h | h
       ·exact HL.out.2 f h
       ·rw [show f=k by omega];exact hg)
      generalize (codeS s k).length=cln at *
      clear HM HL H1 HFn HBw hbox q2 HMk
      go_wp2_with (first
       | (go_at_call 89;refine HM2.out.mono ?_;clear HM2;rintro e w5 ⟨ma,mn,mc,rfl,HW⟩)
       | fail)
      exact ⟨⟨k+1,by go_num,by omega,HW⟩,by simp [intOf];omega⟩
     ·have HM2:Hid (Calls Tryz.prog 89 #[.slice ca (codeS s k).length cc] wr fun e W=>e=.returned (.tuple #[.slice none 0 0,.int .i64 31])∧Hid (FunEnd (funS s) w (.returned (.tuple #[.slice none 0 0,.int .i64 31])) W)):=hid9 (HM.out.mono fun e W ⟨h1,h2⟩=>by
       rw [if_neg hg] at h1
       refine ⟨h1,hid9 ?_⟩
       rw [fun_bad HR.out HO.out (fun h=>hg (code_good h k))]
       exact ⟨none,0,rfl,.inl rfl,HBw.out.trans (h2.mono HBw.out.size)⟩)
      generalize (codeS s k).length=cln at *
      clear HM HL H1 HFn HBw hbox q2 HMk
      go_wp2_with (first
       | (go_at_call 89;refine HM2.out.mono ?_;clear HM2;rintro e w5 ⟨rfl,HW⟩)
       | fail)
      go_ret2
      exact HW.out
    ·have e:k=fl:=by omega
     subst e
     have HA:Hid (allGood s=true):=hid9 (by
      apply Classical.byContradiction
      intro h
      obtain ⟨f,hf,hb⟩:=bad_at HO.out h
      obtain ⟨i,hi,rfl⟩:=List.getElem_of_mem hf
      exact hb (HL.out.2 _ (by rw [HFl.out];exact (HT.out.2 i hi).1)))
     have H2:Hid (NsAt wr.cell? oa (rowI o)∧Below w.heap.size w wr∧wr.heap[w.heap.size]?=some (.cells #[.slice a0 cl c0,.slice a1 k c1] 27 (0,0))):=hid9 ⟨H1.out.1.keep (below_keep HL.out.1),HBw.out,hbox⟩
     clear H1 HL HBw hbox
     obtain ⟨w2,hm2,F2,b2⟩:=HMk.out wr
     have hF2:=hid9 (And.intro F2 b2)
     clear HMk F2 b2
     go_wp2_with fail
     clear hm2
     have HB0:Hid (FillB w2 wr.heap.size (bndS s (o.take 0))∧Below wr.heap.size wr w2):=hid9 ⟨by
      have h:=hF2.out.1
      rw [HFl.out] at h
      unfold FillB bndS
      rw [List.take_zero,List.foldl_nil,List.length_replicate]
      exact h.congr fun j hj=>by simp [List.getD,hj],hF2.out.2⟩
     clear hF2 x1
     obtain ⟨w3,hw3⟩:∃ w3,w3=wr:=⟨_,rfl⟩
     have HW3:=hid9 hw3
     rw [← hw3] at HB0 H2 ⊢
     clear hw3
     go_loopw [10] (fun iv wq=>∃ i:Nat,iv=.int .i64 i∧i≤k∧Hid (FillB wq w3.heap.size (bndS s (o.take i))∧Below w3.heap.size w3 wq)) (fun iv _=>k - (intOf iv).toNat)
     case atStart=>exact ⟨0,rfl,Nat.zero_le _,HB0⟩
     case round =>
      obtain ⟨i,rfl,hi,HL⟩:=hrel
      clear HB0
      rename World=>W3
      have HBw:Hid (Below w.heap.size w W3):=hid9 (H2.out.2.1.trans (HL.out.2.mono H2.out.2.1.size))
      have hbox:W3.heap[w.heap.size]?=some (.cells #[.slice a0 cl c0,.slice a1 k c1] 27 (0,0)):=(HL.out.2.block _ (heap_lt H2.out.2.2)).trans H2.out.2.2
      have x1:W3.cell? ⟨w.heap.size,1,none⟩=some (.slice a1 k c1):=Lib.cell_of_heap hbox 1
      by_cases hlt2:i<k
      ·have hko:i<o.length:=by rw [HT.out.1,← HFl.out];exact hlt2
       obtain ⟨f,hfe⟩:∃ f,f=o[i]:=⟨_,rfl⟩
       have hf:f<k:=by rw [HFl.out,hfe];exact (HT.out.2 i hko).1
       obtain ⟨ob,oo,eoa,q0⟩:∃ ob oo,oa=some ⟨ob,oo,none⟩∧∀ W,Below w3.heap.size w3 W→W.cell? ⟨ob,oo+i,none⟩=some (.int .i64 (f:Int)):=by
        rcases H2.out.1 with h | ⟨b,oo,e,h⟩
        ·have:(rowI o).length=0:=by rw [h];rfl
         simp [rowI] at this
         rw [this] at hko;cases hko
        ·have:=h i (by simp [rowI];exact hko)
         refine ⟨b,oo,e,fun W hW=>below_keep hW _ _ ?_⟩
         rw [this,hfe]
         simp [rowI]
       subst eoa
       have Q0:=hid9 q0
       have q0:=q0 W3 HL.out.2
       obtain ⟨fb,fo,ca,cc,ea,q1,q2⟩:=HFn.out W3 HBw.out f hf
       subst ea
       have HT1:Hid (o.take (i+1)=o.take i++[f]):=hid9 (by rw [List.take_succ_eq_append_getElem hko,hfe])
       obtain ⟨B,hB⟩:∃ B,B=bndS s (o.take i):=⟨_,rfl⟩
       have hBl:B.length=k:=by rw [hB,bnd_len,← HFl.out]
       have HOk:Hid (OkB k B):=hid9 (by rw [hB,HFl.out];exact okB_all fun g _=>code_good HA.out g)
       have hg:goodS (codeS s f)=true:=code_good HA.out f
       have HRt:Hid (rightB (codeS s f) B=true):=hid9 (right_part HR.out (by rw [← HFl.out];exact hf) (by rw [← HFl.out];exact HOk.out))
       have HCl:Hid ((codeS s f).length≤256):=hid9 (code_len HR.out f)
       have HFB:Hid (FillB W3 w3.heap.size B):=hid9 (by rw [hB];exact HL.out.1)
       have hq:Hid (∀ W,Below W3.heap.size W3 W→W.cell? ⟨ob,oo+i,none⟩=some (.int .i64 (f:Int))∧W.cell? ⟨w.heap.size,1,none⟩=some (.slice (some ⟨fb,fo,none⟩) k c1)∧W.cell? ⟨fb,fo+f*4+3,none⟩=some (.slice ca (codeS s f).length cc)):=hid9 fun W hW=>⟨below_keep hW _ _ q0,below_keep hW _ _ x1,below_keep hW _ _ q1⟩
       have HP:Hid (∀ W0,(W0=W3∨W0=W3.drew)→Calls Tryz.prog 93 #[.slice ca (codeS s f).length cc,.slice (some ⟨w3.heap.size,0,none⟩) k k] W0 fun e W=>e=.returned (.tuple #[.int .i64 ((gasS B (codeS s f):Nat):Int),.int .i64 0])∧(∃ u,W.cell? ⟨w3.heap.size,f,none⟩=some u)∧W.frozen? ⟨w3.heap.size,f,none⟩=false∧(W.cell? ⟨ob,oo+i,none⟩=some (.int .i64 (f:Int))∧W.cell? ⟨w.heap.size,1,none⟩=some (.slice (some ⟨fb,fo,none⟩) k c1)∧W.cell? ⟨fb,fo+f*4+3,none⟩=some (.slice ca (codeS s f).length cc))∧Hid (FillB W w3.heap.size B∧Below w3.heap.size w3 W)):=hid9 fun W0 hW0=>by
        have hb0:Below W3.heap.size W3 W0:=by
         rcases hW0 with e | e
         ·rw [e];exact Below.refl _ _
         ·rw [e];exact (Below.refl _ _).drew
        have hF0:FillB W0 w3.heap.size B:=Fill.keep HFB.out (hb0.block _ (Fill.lt HFB.out))
        have:=rpart9_any (codeS s f) B ca (some ⟨w3.heap.size,0,none⟩) cc k _ k rfl hBl (by have:=HCl.out;omega) (by omega) W0 (q2.keep (below_keep hb0)) hF0.ns
        rw [partS_good hg HRt.out] at this
        refine this.mono fun e W ⟨h1,h2⟩=>?_
        have hF:FillB W w3.heap.size B:=Fill.keep hF0 (h2.block _ (Fill.lt hF0))
        have hb1:Below W3.heap.size W3 W:=hb0.trans (h2.mono hb0.size)
        exact ⟨h1,⟨_,Fill.cell hF (by rw [hBl];exact hf)⟩,Fill.frozen hF f,hq.out W hb1,hid9 ⟨hF,HL.out.2.trans (hb1.mono HL.out.2.size)⟩⟩
       have HL2:Hid (∀ W,FillB W w3.heap.size B∧Below w3.heap.size w3 W→FillB (W.setCell ⟨w3.heap.size,f,none⟩ (.int .i64 ((gasS B (codeS s f):Nat):Int))) w3.heap.size (bndS s (o.take (i+1)))∧Below w3.heap.size w3 (W.setCell ⟨w3.heap.size,f,none⟩ (.int .i64 ((gasS B (codeS s f):Nat):Int)))):=hid9 fun W hW=>by
        rw [HT1.out,bnd_snoc,← hB]
        exact ⟨hW.1.step f _ (by rw [hBl];exact hf),hW.2.setCell (p:=⟨w3.heap.size,f,none⟩) (Nat.le_refl _) _⟩
       have hob:ob≠w3.heap.size:=by
        have:=World.block_lt_of_cell? _ _ (Q0.out w3 (Below.refl _ _))
        simp only at this
        omega
       have hwb:w.heap.size≠w3.heap.size:=by
        have:=heap_lt H2.out.2.2
        omega
       have hfb:fb≠w3.heap.size:=by
        obtain ⟨fb',fo',_,_,e',h',_⟩:=HFn.out w (Below.refl _ _) f hf
        cases e'
        have h1:=World.block_lt_of_cell? _ _ h'
        have h2:=H2.out.2.1.size
        simp only at h1
        omega
       have HSt:Hid (∀ (W:World) u,W.cell? ⟨ob,oo+i,none⟩=some (.int .i64 (f:Int))∧W.cell? ⟨w.heap.size,1,none⟩=some (.slice (some ⟨fb,fo,none⟩) k c1)∧W.cell? ⟨fb,fo+f*4+3,none⟩=some (.slice ca (codeS s f).length cc)→(W.setCell ⟨w3.heap.size,f,none⟩ u).cell? ⟨ob,oo+i,none⟩=some (.int .i64 (f:Int))∧(W.setCell ⟨w3.heap.size,f,none⟩ u).cell? ⟨w.heap.size,1,none⟩=some (.slice (some ⟨fb,fo,none⟩) k c1)∧(W.setCell ⟨w3.heap.size,f,none⟩ u).cell? ⟨fb,fo+f*4+3,none⟩=some (.slice ca (codeS s f).length cc)):=hid9 fun W u h=>⟨by rw [cell_set9 hob];exact h.1,by rw [cell_set9 hwb];exact h.2.1,by rw [cell_set9 hfb];exact h.2.2⟩
       generalize gasS B (codeS s f)=gv at *
       generalize (codeS s f).length=cln at *
       clear HL HFB HOk HRt HCl HFn H2 HBw HT1 q2 hbox hfe hB Q0 hg
       go_wp2_with (first
        | (go_at_call 93;refine (HP.out _ (.inl rfl)).mono ?_;clear HP;rintro e w5 ⟨rfl,⟨u,g5⟩,f5,⟨y0,y1,y2⟩,HW⟩)
        | fail)
       go_region_held3 (fun W=>W.cell? ⟨ob,oo+i,none⟩=some (.int .i64 (f:Int))∧W.cell? ⟨w.heap.size,1,none⟩=some (.slice (some ⟨fb,fo,none⟩) k c1)∧W.cell? ⟨fb,fo+f*4+3,none⟩=some (.slice ca cln cc)) (first | exact ⟨q0,x1,q1⟩ | exact ⟨y0,y1,y2⟩ | exact hset _ | go_keep) (first
        | (go_at_call 93;refine (HP.out _ (.inr rfl)).mono ?_;clear HP;rintro e w5 ⟨rfl,⟨u,g5⟩,f5,⟨y0,y1,y2⟩,HW⟩;have hset:∀ u,(w5.setCell ⟨w3.heap.size,f,none⟩ u).cell? ⟨ob,oo+i,none⟩=some (.int .i64 (f:Int))∧(w5.setCell ⟨w3.heap.size,f,none⟩ u).cell? ⟨w.heap.size,1,none⟩=some (.slice (some ⟨fb,fo,none⟩) k c1)∧(w5.setCell ⟨w3.heap.size,f,none⟩ u).cell? ⟨fb,fo+f*4+3,none⟩=some (.slice ca cln cc):=fun u=>HSt.out w5 u ⟨y0,y1,y2⟩))
       all_goals
        go_wp2_with fail
        exact ⟨⟨i+1,by go_num,by omega,hid9 (HL2.out _ HW.out)⟩,by simp [intOf];omega⟩
      ·have e:i=k:=by omega
       subst e
       have HE:Hid (FunEnd (funS s) w (.returned (.tuple #[.slice (some ⟨w3.heap.size,0,none⟩) i i,.int .i64 0])) W3):=hid9 (by
        have hta:o.take i=o:=by rw [HFl.out,← HT.out.1,List.take_length]
        rw [fun_good HR.out HO.out HA.out]
        have h:=HL.out.1
        rw [hta] at h
        exact ⟨_,i,by rw [show (0,bndS s o).2.length=i by rw [HFl.out];exact bnd_len s o],h.ns,HBw.out⟩)
       clear HL H2 HFn HBw hbox
       go_wp2_with fail
       go_ret2
       exact HE.out
 ·have HG:Hid (Calls Tryz.prog 26 #[.agg #[.slice a0 s.consts.length c0,.slice a1 s.funcs.length c1]] (w.alloc (.cells #[.slice a0 s.consts.length c0,.slice a1 s.funcs.length c1] 27)) fun e w1=>e=.returned (.tuple #[.slice none 0 0,.int .i64 30])∧Hid (FunEnd (funS s) w (.returned (.tuple #[.slice none 0 0,.int .i64 30])) w1)):=hid9 (hG.mono fun e w1 ⟨h1,h2⟩=>by
   rw [if_neg hr] at h2
   exact ⟨h2,hid9 (by rw [fun_no hr];exact ⟨none,0,rfl,.inl rfl,b1.trans (h1.mono b1.size)⟩)⟩)
  generalize s.consts.length=cl at HG ⊢
  generalize s.funcs.length=fl at HG ⊢
  clear hG hr n0 n1 hsf b1 e0
  go_enter Tryz.func58,Tryz.ntmps58
  go_wp2_with (first
   | (go_at_call 26;refine HG.out.mono ?_;clear HG;rintro e w1 ⟨rfl,HE⟩)
   | fail)
  go_ret2
  exact HE.out
set_option maxRecDepth 100000 in
set_option maxHeartbeats 2000000 in
theorem rtotal9_any (s:Scr)(V0 V1:Value)(w:World)(hs:ScIs w.cell? s V0 V1)(hsf:s.fits)(hI64:∀ f ∈ s.funcs,∀ x ∈ f.code,-9223372036854775808≤x.2∧x.2≤9223372036854775807):Calls Tryz.prog 27 #[.agg #[V0,V1]] w (TotEnd s w):=by
 obtain ⟨⟨a0,c0,rfl,n0⟩,⟨a1,c1,rfl,n1⟩⟩:=hs
 have b1:=(Below.refl _ w).alloc (Nat.le_refl _) (.cells #[.slice a0 s.consts.length c0,.slice a1 s.funcs.length c1] 27)
 have hG:=rfuncs9_any s _ _ (w.alloc (.cells #[.slice a0 s.consts.length c0,.slice a1 s.funcs.length c1] 27)) ⟨⟨a0,c0,rfl,n0.keep (below_keep b1)⟩,⟨a1,c1,rfl,n1.keep (below_keep b1)⟩⟩ hsf hI64
 have HT:Hid (totS s=if (funS s).1=0 then (if 1048576<(funS s).2.getD 0 0 then (35,0) else (0,(funS s).2.getD 0 0)) else ((funS s).1,0)):=hid9 rfl
 unfold TotEnd
 generalize totS s=T at *
 rcases fun_err s with ⟨h0,h1,hrt,h3,_⟩ | ⟨h0,h1⟩
 ·have HRr:Hid (∀ W,Below w.heap.size w W→Calls Tryz.prog 24 #[.agg #[.slice a0 s.consts.length c0,.slice a1 s.funcs.length c1]] W fun e W1=>e=.returned (.bool true)∧(∀ fb fo v,W.cell? ⟨fb,fo,none⟩=some v→W1.cell? ⟨fb,fo,none⟩=some v)∧Hid (Below w.heap.size w W1)):=hid9 fun W hW=>(rright4_any s _ _ W ⟨⟨a0,c0,rfl,n0.keep (below_keep hW)⟩,⟨a1,c1,rfl,n1.keep (below_keep hW)⟩⟩ hsf hI64).mono fun e W1 ⟨h1,h2⟩=>⟨by rw [h1,hrt],fun fb fo v h=>below_keep h2 _ _ h,hid9 (hW.trans (h2.mono hW.size))⟩
  have hx0:Hid (∀ W,Below (w.alloc (.cells #[.slice a0 s.consts.length c0,.slice a1 s.funcs.length c1] 27)).heap.size (w.alloc (.cells #[.slice a0 s.consts.length c0,.slice a1 s.funcs.length c1] 27)) W→W.cell? ⟨w.heap.size,0,none⟩=some (.slice a0 s.consts.length c0)∧W.cell? ⟨w.heap.size,1,none⟩=some (.slice a1 s.funcs.length c1)):=hid9 fun W hW=>by
   have e0:=heap_alloc_new w (.cells #[.slice a0 s.consts.length c0,.slice a1 s.funcs.length c1] 27)
   have e1:=(hW.block _ (heap_lt e0)).trans e0
   exact ⟨Lib.cell_of_heap e1 0,Lib.cell_of_heap e1 1⟩
  have HG:Hid (Calls Tryz.prog 58 #[.agg #[.slice a0 s.consts.length c0,.slice a1 s.funcs.length c1]] (w.alloc (.cells #[.slice a0 s.consts.length c0,.slice a1 s.funcs.length c1] 27)) fun e w1=>∃ fa fc,e=.returned (.tuple #[.slice (some fa) s.funcs.length fc,.int .i64 0])∧fa.spot=none∧w1.cell? ⟨fa.block,fa.off,none⟩=some (.int .i64 ((funS s).2.getD 0 0))∧(w1.cell? ⟨w.heap.size,0,none⟩=some (.slice a0 s.consts.length c0)∧w1.cell? ⟨w.heap.size,1,none⟩=some (.slice a1 s.funcs.length c1))∧Hid (Below w.heap.size w w1)):=hid9 (hG.mono fun e w1 ⟨a,c,e1,h4,h5⟩=>by
   rw [h0,h1] at e1
   rcases h4 with h4 | ⟨b,off,rfl,h4⟩
   ·rw [h4] at h1;simp at h1;omega
   ·refine ⟨⟨b,off,none⟩,c,e1,rfl,?_,hx0.out w1 h5,hid9 (b1.trans (h5.mono b1.size))⟩
    have:=h4 0 (by omega)
    rw [Nat.add_zero] at this
    rw [this]
    simp [List.getD,show 0<(funS s).2.length by omega])
  rw [h0] at HT
  have HT2:Hid ((1048576<(funS s).2.getD 0 0→T=(35,0))∧(¬ 1048576<(funS s).2.getD 0 0→T=(0,(funS s).2.getD 0 0))):=hid9 ⟨fun h=>by rw [HT.out,if_pos rfl,if_pos h],fun h=>by rw [HT.out,if_pos rfl,if_neg h]⟩
  clear HT hG n0 n1 hsf h0 h1 b1 hI64 hx0 hrt
  generalize s.consts.length=cl at *
  obtain ⟨fl,hfl⟩:∃ fl,fl=s.funcs.length:=⟨_,rfl⟩
  rw [← hfl] at h3 HG HRr ⊢
  generalize (funS s).2.getD 0 0=v at *
  clear hfl
  by_cases hv:1048576<v
  ·rw [HT2.out.1 hv]
   go_enter Tryz.func27,Tryz.ntmps27
   go_wp2_with (first
    | (go_at_call 58;refine HG.out.mono ?_;clear HG;rintro e w1 ⟨⟨fb,fo,sp⟩,fc,rfl,rfl,g0,⟨x0,x1⟩,HB⟩)
    | (go_at_call 24;refine (HRr.out _ HB.out).mono ?_;clear HRr;rintro e w4 ⟨rfl,hkp,HB4⟩;have g4:=hkp _ _ _ g0;clear hkp)
    | fail)
   go_ret2
   exact ⟨rfl,HB4.out⟩
  ·rw [HT2.out.2 hv]
   have hv2:v≤1048576:=by omega
   go_enter Tryz.func27,Tryz.ntmps27
   go_wp2_with (first
    | (go_at_call 58;refine HG.out.mono ?_;clear HG;rintro e w1 ⟨⟨fb,fo,sp⟩,fc,rfl,rfl,g0,⟨x0,x1⟩,HB⟩)
    | (go_at_call 24;refine (HRr.out _ HB.out).mono ?_;clear HRr;rintro e w4 ⟨rfl,hkp,HB4⟩;have g4:=hkp _ _ _ g0;clear hkp)
    | fail)
   go_ret2
   exact ⟨rfl,HB4.out⟩
 ·have hne:¬ (funS s).1=0:=by omega
  have HT2:Hid (T=((funS s).1,0)):=hid9 (by rw [HT.out,if_neg hne])
  have HG:Hid (Calls Tryz.prog 58 #[.agg #[.slice a0 s.consts.length c0,.slice a1 s.funcs.length c1]] (w.alloc (.cells #[.slice a0 s.consts.length c0,.slice a1 s.funcs.length c1] 27)) fun e w1=>∃ fa fc,e=.returned (.tuple #[.slice fa 0 fc,.int .i64 (funS s).1])∧Hid (Below w.heap.size w w1)):=hid9 (hG.mono fun e w1 ⟨a,c,e1,h4,h5⟩=>⟨a,c,by rw [h1] at e1;exact e1,hid9 (b1.trans (h5.mono b1.size))⟩)
  rw [HT2.out]
  clear HT HT2 hG n0 n1 hsf h0 h1 b1 hI64
  have hnb:((funS s).1 != 0)=true:=by simpa using hne
  generalize s.consts.length=cl at *
  generalize s.funcs.length=fl at *
  generalize (funS s).1=er at *
  go_enter Tryz.func27,Tryz.ntmps27
  go_wp2_with (first
   | (go_at_call 58;refine HG.out.mono ?_;clear HG;rintro e w1 ⟨fa,fc,rfl,HB⟩)
   | fail)
  go_ret2
  exact ⟨rfl,HB.out⟩
end Go.Proofs.YtpmlnkjamhelnaaGreat
