/- Layer 8: the document's Graph. Layer 8: Reach. Layer 8: the document's Reach. Layer 8: the law's knows. Layer 8: Order and Deep of the law's script. -/
import Derived.Test.YtpmlnkjamhelnaaGreatXJ
import Derived.Test.YtpmlnkjamhelnaaGreatCTg
import Derived.Test.YtpmlnkjamhelnaaGreatXK
import Derived.Lib.SlKeysI
import Derived.Test.YtpmlnkjamhelnaaGreatCB
namespace Go.Proofs.YtpmlnkjamhelnaaGreat
open Go.RowKit
theorem elemN_sli8:ElemN Tryz.prog 58 28 1 24:=by
 refine ⟨Tryz.underlying58,?_,by decide⟩
 obtain ⟨i,hi,h1,h2,h3⟩:=info_parts (show (Tryz.prog.info? 28).map (fun i=>(i.zero,i.size,i.bytes))=some (some (.slice none 0 0),1,24) by kernel_rfl)
 exact ⟨i,_,hi,h1,h2,h3,rfl⟩
def NsT (W:World)(a:Option Addr)(ns:List Int):Prop:=ns=[]∨∃ b cur,a=some ⟨b,0,none⟩∧W.heap[b]?=some (.cells cur 3 (0,0))∧∀ j (h:j<ns.length),cur[j]?=some (.int .i64 ns[j])
theorem NsT.ns {W:World}{a:Option Addr}{ns:List Int}(h:NsT W a ns):NsAt W.cell? a ns:=by
 rcases h with h | ⟨b,cur,e,h1,h2⟩
 ·exact .inl h
 ·exact .inr ⟨b,0,e,fun j hj=>by rw [Nat.zero_add,Lib.cell_of_heap h1];exact h2 j hj⟩
theorem NsT.keep {W W':World}{a:Option Addr}{ns:List Int}(h:NsT W a ns)(k:∀ (b:Nat) (cur:Array Value),W.heap[b]?=some (.cells cur 3 (0,0))→W'.heap[b]?=some (.cells cur 3 (0,0))):NsT W' a ns:=by
 rcases h with h | ⟨b,cur,e,h1,h2⟩
 ·exact .inl h
 ·exact .inr ⟨b,cur,e,k b cur h1,h2⟩
theorem nst_own {w:World}{base:Nat}{a:Option Addr}{n c:Nat}{ns:List Int}(h:w.ownsRow base 3 1 (.slice a n c) n (cellsN ns)):NsT w a ns:=by
 have hl:(cellsN ns).length=n*1:=h.1
 rw [cellsN,List.length_map] at hl
 rcases h.2 with ⟨_,h2⟩ | ⟨g,cap,cur,e,_,h2,h3,_,h4,h5⟩
 ·left
  cases ns with
  | nil=>rfl
  | cons x l=>simp at hl;omega
 ·injection e with e1
  refine .inr ⟨g,cur,e1,h2,fun j hj=>?_⟩
  have e6:(cur.toList.take (n*1))[j]?=(cellsN ns)[j]?:=by rw [h5]
  rw [List.getElem?_take_of_lt (by omega),Array.getElem?_toList] at e6
  rw [e6]
  simp [cellsN,hj]
def hiC (B:Nat)(W:World):Addr→Option Value:=fun a=>if a.block<B then none else W.cell? a
theorem hiC_at {B:Nat}{W:World}{a:Addr}{x:Value}(hb:B≤a.block)(h:W.cell? a=some x):hiC B W a=some x:=by unfold hiC;rw [if_neg (by omega)];exact h
theorem hiC_le {B:Nat}{W:World}{a:Addr}{x:Value}(h:hiC B W a=some x):B≤a.block∧W.cell? a=some x:=by
 unfold hiC at h
 split at h
 ·cases h
 ·exact ⟨by omega,h⟩
theorem NsT.hi {W:World}{B:Nat}{a:Option Addr}{ns:List Int}(h:NsT W a ns)(hB:∀ g,a=some g→B≤g.block):NsAt (hiC B W) a ns:=by
 rcases h with h | ⟨b,cur,e,h1,h2⟩
 ·exact .inl h
 ·exact .inr ⟨b,0,e,fun j hj=>hiC_at (show B≤b from hB ⟨b,0,none⟩ e) (by rw [Nat.zero_add,Lib.cell_of_heap h1];exact h2 j hj)⟩
def VsT (B:Nat)(W:World)(vs:List Value)(R:List (List Int)):Prop:=vs.length=R.length∧∀ j (h:j<R.length),∃ aj cj,vs[j]?=some (.slice aj R[j].length cj)∧NsT W aj R[j]∧∀ g,aj=some g→B≤g.block
theorem VsT.keep {B:Nat}{W W':World}{vs:List Value}{R:List (List Int)}(h:VsT B W vs R)(k:∀ (b:Nat) (cur:Array Value),W.heap[b]?=some (.cells cur 3 (0,0))→W'.heap[b]?=some (.cells cur 3 (0,0))):VsT B W' vs R :=
 ⟨h.1,fun j hj=>by obtain ⟨aj,cj,h1,h2,h3⟩:=h.2 j hj;exact ⟨aj,cj,h1,h2.keep k,h3⟩⟩
theorem VsT.snoc {B:Nat}{W:World}{vs:List Value}{R:List (List Int)}(h:VsT B W vs R){a:Option Addr}{c:Nat}{r:List Int}(hr:NsT W a r)(hB:∀ g,a=some g→B≤g.block):VsT B W (vs++[.slice a r.length c]) (R++[r]):=by
 refine ⟨by simp [h.1],fun j hj=>?_⟩
 rw [List.length_append,List.length_singleton] at hj
 by_cases e:j<R.length
 ·obtain ⟨aj,cj,h1,h2,h3⟩:=h.2 j e
  exact ⟨aj,cj,by rw [List.getElem?_append_left (by rw [h.1];exact e),List.getElem_append_left e];exact h1,by rw [List.getElem_append_left e];exact h2,h3⟩
 ·obtain rfl:j=R.length:=by omega
  exact ⟨a,c,by rw [List.getElem?_append_right (by rw [h.1];exact Nat.le_refl _)];simp [h.1],by simpa using hr,hB⟩
theorem keepT_below {W W':World}(h:Below W.heap.size W W'):∀ (b:Nat) (cur:Array Value),W.heap[b]?=some (.cells cur 3 (0,0))→W'.heap[b]?=some (.cells cur 3 (0,0)):=fun b _ hb=>(h.block b (heap_lt hb)).trans hb
theorem keepT_step {W W':World}{base n:Nat}{v v':Value}{xs:List Value}(h:W.ownsRow base 28 1 v n xs)(hs:Step W v W' v'):∀ (b:Nat) (cur:Array Value),W.heap[b]?=some (.cells cur 3 (0,0))→W'.heap[b]?=some (.cells cur 3 (0,0)):=fun b cur hb=>by
 rw [hs.1.block b (heap_lt hb) (fun e=>?_)]
 ·exact hb
 ·rcases h.2 with ⟨e0,_⟩ | ⟨g,cap,cur',e0,_,h2,_⟩
  ·rw [e0] at e;cases e
  ·rw [e0] at e
   simp only [Value.ownBlock,Option.some.injEq] at e
   subst e
   rw [hb] at h2
   injection h2 with h2
   injection h2 with _ h2
   revert h2
   decide
theorem vsT_rows {W:World}{base n:Nat}{a:Option Addr}{c:Nat}{vs:List Value}{R:List (List Int)}(h:W.ownsRow base 28 1 (.slice a n c) n vs){B:Nat}(hv:VsT B W vs R)(hB:B≤base):n=R.length∧RsAt (hiC B W) a R:=by
 have hl:vs.length=n*1:=h.1
 have hl2:=hv.1
 refine ⟨by omega,?_⟩
 obtain ⟨a',c',e,_,_,q⟩:=row_form h
 cases e
 rcases q with ⟨_,q,_⟩ | ⟨g,e,_,_,q⟩
 ·exact .inl (List.length_eq_zero_iff.1 (by omega))
 ·refine .inr ⟨g,0,e,fun j hj=>?_⟩
  obtain ⟨aj,cj,h1,h2,h3⟩:=hv.2 j hj
  exact ⟨aj,cj,hiC_at (Nat.le_trans hB (h.lt g (by rw [e];rfl)).1) (by rw [Nat.zero_add];exact q j _ h1),h2.hi h3⟩
def gRowK (G:Nat)(cs:List (Int × Int)):List Nat:=(List.range G).filter fun g=>callsS cs (g:Int)
theorem gRowK_succ (G:Nat)(cs:List (Int × Int)):rowI (gRowK (G+1) cs)=rowI (gRowK G cs)++if callsS cs (G:Int) then [(G:Int)] else []:=by
 unfold gRowK
 rw [List.range_succ,List.filter_append,rowI,List.map_append]
 congr 1
 by_cases h:callsS cs (G:Int)
 ·simp [h]
 ·simp [h]
def GraphEndN (s:Scr)(w:World)(e:Ending)(w':World):Prop:=GraphEnd s w e w'∧(s.right=true→∃ ga gc,e=.returned (.tuple #[.slice ga s.funcs.length gc,.int .i64 0])∧RsAt (hiC w.heap.size w') ga (rowsI (graphS s)))
set_option maxRecDepth 100000 in
set_option maxHeartbeats 1000000 in
theorem rgraph_new (s:Scr)(V0 V1:Value)(w:World)(hs:ScIs w.cell? s V0 V1)(hsf:s.fits)(hI64:∀ f ∈ s.funcs,∀ x ∈ f.code,-9223372036854775808≤x.2∧x.2≤9223372036854775807):Calls Tryz.prog 29 #[.agg #[V0,V1]] w (GraphEndN s w):=by
 obtain ⟨⟨a0,c0,rfl,n0⟩,⟨a1,c1,rfl,n1⟩⟩:=hs
 have b1:=(Below.refl _ w).alloc (Nat.le_refl _) (.cells #[.slice a0 s.consts.length c0,.slice a1 s.funcs.length c1] 27)
 have hk1:=below_keep b1
 have hRt:=rright4_any s _ _ (w.alloc (.cells #[.slice a0 s.consts.length c0,.slice a1 s.funcs.length c1] 27)) ⟨⟨a0,c0,rfl,n0.keep hk1⟩,⟨a1,c1,rfl,n1.keep hk1⟩⟩ hsf hI64
 have HR:Hid (Calls Tryz.prog 24 #[.agg #[.slice a0 s.consts.length c0,.slice a1 s.funcs.length c1]] (w.alloc (.cells #[.slice a0 s.consts.length c0,.slice a1 s.funcs.length c1] 27)) fun e w1=>e=.returned (.bool s.right)∧w1.cell? ⟨w.heap.size,0,none⟩=some (.slice a0 s.consts.length c0)∧w1.cell? ⟨w.heap.size,1,none⟩=some (.slice a1 s.funcs.length c1)∧Hid (Below w.heap.size w w1)):=hid7 (hRt.mono fun e w1 ⟨h1,h2⟩=>by
  have e2:(w.alloc (.cells #[.slice a0 s.consts.length c0,.slice a1 s.funcs.length c1] 27)).heap[w.heap.size]?=some (.cells #[.slice a0 s.consts.length c0,.slice a1 s.funcs.length c1] 27 (0,0)):=heap_alloc_new w _
  have e3:=(h2.block _ (heap_lt e2)).trans e2
  exact ⟨h1,Lib.cell_of_heap e3 0,Lib.cell_of_heap e3 1,hid7 (b1.trans (h2.mono b1.size))⟩)
 have hfl:=hsf.2.1
 by_cases hr:s.right=true
 ·rw [hr] at HR
  obtain ⟨r1,r2,r3⟩:=right_calls hr
  clear hRt hk1 n0 b1
  obtain ⟨fl,hfe⟩:∃ fl,fl=s.funcs.length:=⟨_,rfl⟩
  have HFe:=hid7 hfe
  rw [← hfe] at HR hfl r1 ⊢
  generalize s.consts.length=cl at HR ⊢
  have HF1:=hid7 n1
  have HR3:=hid7 r3
  clear hfe n1 hI64 r3
  go_enter Tryz.func29,Tryz.ntmps29
  go_wp2_with (first | (go_at_call 24;refine HR.out.mono ?_;clear HR;rintro e w1 ⟨rfl,d0,d1,B1⟩) | fail)
  obtain ⟨R,hR⟩:∃ R,R=rowsI (graphS s):=⟨_,rfl⟩
  have HRl:Hid (R.length=fl∧∀ k (h:k<R.length) (h2:k<s.funcs.length),R[k]=rowI (gRowK fl (s.funcs[k]).code)):=hid7 ⟨by rw [hR,graph_len,HFe.out],fun k h h2=>by subst hR;simp only [rowsI,graphS,List.getElem_map,gRow,gRowK,HFe.out]⟩
  have HEnd:Hid (∀ ga gc W e,RsAt (hiC w.heap.size W) ga R→Below w.heap.size w W→e=.returned (.tuple #[.slice ga fl gc,.int .i64 0])→GraphEndN s w e W):=hid7 fun ga gc W e h1 h2 h3=>by
   refine ⟨⟨?_,h2⟩,fun _=>⟨ga,gc,by rw [← HFe.out];exact h3,by rw [← hR];exact h1⟩⟩
   rw [if_pos hr]
   exact ⟨ga,gc,by rw [← HFe.out];exact h3,by rw [← hR];exact h1.keep fun a x h=>(hiC_le h).2⟩
  clear hR
  go_loopw [4,5] (fun ov iv wr=>∃ (k:Nat) (vs:List Value),iv=.int .i64 k∧k≤fl∧Hid (wr.ownsRow w1.heap.size 28 1 ov k vs∧VsT w.heap.size wr vs (R.take k)∧Below w1.heap.size w1 wr)) (fun _ iv _=>fl - (intOf iv).toNat)
  case atStart=>exact ⟨0,[],rfl,Nat.zero_le _,hid7 ⟨World.ownsRow_nil _ _ _ _,⟨rfl,fun j hj=>by simp at hj⟩,Below.refl _ _⟩⟩
  case round =>
   obtain ⟨k,vs,rfl,hk,HL⟩:=hrel
   obtain ⟨wo,rfl⟩:∃ wo,wo=wr:=⟨_,rfl⟩
   obtain ⟨oa,oc,eov,hoc,_⟩:=row_form HL.out.1
   subst eov
   have Bf:=HL.out.2.2
   have Bw:=B1.out.trans (Bf.mono B1.out.size)
   have e0:=(Bf.cell (World.block_lt_of_cell? w1 _ d0)).trans d0
   have e1:=(Bf.cell (World.block_lt_of_cell? w1 _ d1)).trans d1
   by_cases hlt:k<fl
   ·have hkl:k<s.funcs.length:=by rw [← HFe.out];exact hlt
    obtain ⟨fb,fo,ea,x3,N3,c3,hN3,q3,i3⟩:∃ fb fo,a1=some ⟨fb,fo,none⟩∧∃ x3 N3 c3,(s.funcs[k]).code.length=N3∧wo.cell? ⟨fb,fo+k*4+3,none⟩=some (.slice x3 N3 c3)∧IsAt wo.cell? x3 (s.funcs[k]).code:=by
     rcases HF1.out.keep (below_keep Bw) with h | ⟨fb,fo,e,h⟩
     ·rw [h] at hkl;cases hkl
     ·obtain ⟨v0,v1,v2,v3,_,_,_,h4,h5⟩:=h k hkl
      obtain ⟨_,_,_,a3,c3,e3,i3⟩:=h5
      exact ⟨fb,fo,e,a3,_,c3,rfl,by rw [h4,e3],i3⟩
    subst ea
    have hkR:k<R.length:=by rw [HRl.out.1];exact hlt
    have hRk:=HRl.out.2 k hkR hkl
    have hN3b:N3≤100000:=by have:=(HR3.out _ (List.getElem_mem hkl)).1;omega
    have HC:Hid (∀ W G,Below wo.heap.size wo W→Calls Tryz.prog 59 #[.agg #[.slice a0 cl c0,.slice (some ⟨fb,fo,none⟩) fl c1],.int .i64 k,.int .i64 G] W fun e w'=>e=.returned (.bool (callsS (s.funcs[k]).code G))∧Hid (Below W.heap.size W w')):=hid7 fun W G hW=>(rcalls_any (s.funcs[k]).code fb fo k fl c1 (.slice a0 cl c0) x3 c3 N3 hN3 hN3b hlt G W ((hW.cell (World.block_lt_of_cell? wo _ q3)).trans q3) (i3.keep (below_keep hW))).mono fun e w' ⟨h1,h2⟩=>⟨h1,hid7 h2⟩
    have HT:Hid (R.take (k+1)=R.take k++[rowI (gRowK fl (s.funcs[k]).code)]):=hid7 (by rw [List.take_succ_eq_append_getElem hkR,hRk])
    have hE:Hid (∀ W,Below wo.heap.size wo W→W.cell? ⟨w.heap.size,0,none⟩=some (.slice a0 cl c0)∧W.cell? ⟨w.heap.size,1,none⟩=some (.slice (some ⟨fb,fo,none⟩) fl c1)):=hid7 fun W hW=>⟨(hW.cell (World.block_lt_of_cell? wo _ e0)).trans e0,(hW.cell (World.block_lt_of_cell? wo _ e1)).trans e1⟩
    generalize (s.funcs[k]).code=cs at HC HT
    clear i3 q3 hN3 hRk Bw hkl hkR HF1 HR3 HRl HEnd hN3b
    go_wp2_with fail
    go_loopw [6,7] (fun lv gv wr=>∃ G:Nat,gv=.int .i64 G∧G≤fl∧Hid (wr.ownsRow wo.heap.size 3 1 lv (rowI (gRowK G cs)).length (cellsN (rowI (gRowK G cs)))∧Below wo.heap.size wo wr)) (fun _ gv _=>fl - (intOf gv).toNat)
    case atStart=>exact ⟨0,rfl,Nat.zero_le _,hid7 ⟨World.ownsRow_nil _ _ _ _,Below.refl _ _⟩⟩
    case round =>
     obtain ⟨G,rfl,hG,HI⟩:=hrel
     obtain ⟨la,lc,elv,hlc,_⟩:=row_form HI.out.1
     subst elv
     obtain ⟨y0,y1⟩:=hE.out wr HI.out.2
     have hll:(rowI (gRowK G cs)).length≤16:=by
      rw [rowI,List.length_map]
      exact Nat.le_trans (List.length_filter_le _ _) (by simp;omega)
     by_cases hGl:G<fl
     ·have HC2:=hid7 (HC.out wr G HI.out.2)
      have hS:=gRowK_succ G cs
      obtain ⟨al,hal⟩:∃ al,al=(rowI (gRowK G cs)).length:=⟨_,rfl⟩
      rw [← hal] at hll hlc HI ⊢
      have HAL:=hid7 hal
      clear hal
      have s1:wo.heap.size≤wr.heap.size:=HI.out.2.size
      cases hc:callsS cs (G:Int) with
      | true =>
       rw [hc] at HC2 hS
       have HS:Hid (rowI (gRowK (G+1) cs)=rowI (gRowK G cs)++[(G:Int)]):=hid7 (by rw [hS];simp)
       have HA:Hid (∀ w4,Below wr.heap.size wr w4→(w4.alloc (.cells #[.int .i64 (G:Int)] 3)).ownsRow wo.heap.size 3 1 (.slice la al lc) al (cellsN (rowI (gRowK G cs)))∧wo.heap.size≤w4.heap.size):=hid7 fun w4 hb=>⟨(row_below2 HI.out.1 hb).alloc _,Nat.le_trans s1 hb.size⟩
       clear HC hS hc HT hE HL
       go_wp2_with (first
        | (go_at_call 59;refine HC2.out.mono ?_;clear HC2;rintro e w4 ⟨rfl,K4⟩;obtain ⟨A4,s4⟩:=HA.out w4 K4.out;have R4:=hid7 A4;clear A4)
        | (at_builtin;refine wpList_appN _ rfl _ _ 28 rfl elemN_int wo.heap.size _ al (cellsN (rowI (gRowK G cs))) rfl R4.out _ rfl 1 [.int .i64 (G:Int)] (.inr ⟨⟨_,0,none⟩,1,rfl,cells_new8 _ [.int .i64 (G:Int)] 3 _ rfl⟩) rfl (by simp [Value.oneCell']) (by unfold maxLen;omega) (by omega) (by simp;omega) ?_;intro v' w6 hr6 hs6)
        | fail)
       have bA:Below w4.heap.size w4 (w4.alloc (.cells #[.int .i64 (G:Int)] 3)):=(Below.refl _ _).alloc (Nat.le_refl _) _
       have b6:=hs6.below (B:=wo.heap.size) (by simp;omega) (fun g e=>(R4.out.lt g e).1)
       refine ⟨⟨G+1,by go_num,by omega,hid7 ⟨?_,((HI.out.2.trans (K4.out.mono s1)).trans (bA.mono s4)).trans b6⟩⟩,by simp [intOf];omega⟩
       rw [HS.out,List.length_append,List.length_singleton,← HAL.out,show cellsN (rowI (gRowK G cs)++[(G:Int)])=cellsN (rowI (gRowK G cs))++[.int .i64 (G:Int)] by simp [cellsN]]
       exact hr6
      | false =>
       rw [hc] at HC2 hS
       have HS:Hid (rowI (gRowK (G+1) cs)=rowI (gRowK G cs)):=hid7 (by rw [hS];simp)
       clear HC hS hc HT hE HL
       go_wp2_with (first
        | (go_at_call 59;refine HC2.out.mono ?_;clear HC2;rintro e w4 ⟨rfl,K4⟩)
        | fail)
       refine ⟨⟨G+1,by go_num,by omega,hid7 ⟨?_,HI.out.2.trans (K4.out.mono s1)⟩⟩,by simp [intOf];omega⟩
       rw [HS.out,← HAL.out]
       exact row_below2 HI.out.1 K4.out
     ·obtain rfl:G=fl:=by omega
      have s1:wo.heap.size≤wr.heap.size:=HI.out.2.size
      have s0:w1.heap.size≤wo.heap.size:=HL.out.2.2.size
      have hNs:=nst_own HI.out.1
      have HA:Hid ((wr.alloc (.cells #[.slice la (rowI (gRowK G cs)).length lc] 28)).ownsRow w1.heap.size 28 1 (.slice oa k oc) k vs):=hid7 ((row_below2 HL.out.1 HI.out.2).alloc _)
      have HV:Hid (VsT w.heap.size (wr.alloc (.cells #[.slice la (rowI (gRowK G cs)).length lc] 28)) (vs++[.slice la (rowI (gRowK G cs)).length lc]) (R.take (k+1))∧Below w1.heap.size w1 (wr.alloc (.cells #[.slice la (rowI (gRowK G cs)).length lc] 28))):=hid7 (by
       have bA:Below wr.heap.size wr (wr.alloc (.cells #[.slice la (rowI (gRowK G cs)).length lc] 28)):=(Below.refl _ _).alloc (Nat.le_refl _) _
       have bB:=HI.out.2.trans (bA.mono s1)
       refine ⟨?_,HL.out.2.2.trans (bB.mono s0)⟩
       rw [HT.out]
       exact (HL.out.2.1.keep (keepT_below bB)).snoc (hNs.keep (keepT_below bA)) fun g e=>Nat.le_trans (Nat.le_trans B1.out.size s0) (HI.out.1.lt g.block (by rw [e];rfl)).1)
      generalize (rowI (gRowK G cs)).length=al at *
      clear hNs HC HT hE HL HI
      go_wp2_with (first
       | (at_builtin;refine wpList_appN _ rfl _ _ 58 rfl elemN_sli8 w1.heap.size _ k vs rfl HA.out _ rfl 1 [.slice la al lc] (.inr ⟨⟨_,0,none⟩,1,rfl,cells_new8 _ [.slice la al lc] 28 _ rfl⟩) rfl (by simp [Value.oneCell']) (by unfold maxLen;omega) (by omega) (by simp;omega) ?_;intro v' w6 hr6 hs6)
       | fail)
      have b6:=hs6.below (B:=w1.heap.size) (by simp;omega) (fun g e=>(HA.out.lt g e).1)
      exact ⟨⟨k+1,_,by go_num,by omega,hid7 ⟨hr6,HV.out.1.keep (keepT_step HA.out hs6),HV.out.2.trans b6⟩⟩,by simp [intOf];omega⟩
   ·obtain rfl:k=fl:=by omega
    have hV:=HL.out.2.1
    rw [← HRl.out.1,List.take_length] at hV
    have HE:=hid7 (HEnd.out oa oc wo _ (vsT_rows HL.out.1 hV B1.out.size).2 Bw rfl)
    clear hV HL HRl HEnd HF1 HR3 Bf Bw
    go_wp2_with fail
    go_ret2
    exact HE.out
 ·have hr':s.right=false:=by simpa using hr
  rw [hr'] at HR
  have HEnd:Hid (∀ W e,Below w.heap.size w W→e=.returned (.tuple #[.slice none 0 0,.int .i64 30])→GraphEndN s w e W):=hid7 fun W e h2 h3=>by
   refine ⟨⟨?_,h2⟩,fun h=>absurd h hr⟩
   rw [if_neg hr]
   exact h3
  clear hRt hk1 n0 b1 n1 hr hr' hI64
  generalize s.funcs.length=fl at HR hfl ⊢
  generalize s.consts.length=cl at HR ⊢
  go_enter Tryz.func29,Tryz.ntmps29
  go_wp2_with (first | (go_at_call 24;refine HR.out.mono ?_;clear HR;rintro e w1 ⟨rfl,d0,d1,B1⟩) | fail)
  go_ret2
  exact HEnd.out _ _ B1.out rfl
theorem rgraph_any (s:Scr)(V0 V1:Value)(w:World)(hs:ScIs w.cell? s V0 V1)(hsf:s.fits)(hI64:∀ f ∈ s.funcs,∀ x ∈ f.code,-9223372036854775808≤x.2∧x.2≤9223372036854775807):Calls Tryz.prog 29 #[.agg #[V0,V1]] w (GraphEnd s w):=(rgraph_new s V0 V1 w hs hsf hI64).mono fun _ _ h=>h.1
end Go.Proofs.YtpmlnkjamhelnaaGreat
namespace Go.Proofs.YtpmlnkjamhelnaaGreat
open Go.RowKit Go.Maps Go.Sort Go.Shelf
end Go.Proofs.YtpmlnkjamhelnaaGreat
namespace Go.Proofs.YtpmlnkjamhelnaaGreat
open Go.RowKit
def boolV (m:Nat→Bool):Nat→Value:=fun x=>.bool (m x)
def bestS (n:Nat)(g:Nat→List Nat)(out:List Nat):Nat→Int
 | 0=>-1
 | k+1=>if rdy g out (n - (k+1)) then ((n - (k+1):Nat):Int) else bestS n g out k
theorem best_some {n:Nat}{g:Nat→List Nat}{out:List Nat}:∀ k≤n,bestS n g out k=match ((List.range n).drop (n - k)).find? (rdy g out) with | some f=>(f:Int) | none=>-1
 | 0,_=>by
  rw [Nat.sub_zero,List.drop_of_length_le (by simp)]
  rfl
 | k+1,hk=>by
  have hlt:n - (k+1)<(List.range n).length:=by simp;omega
  have ih:=best_some (n:=n) (g:=g) (out:=out) k (by omega)
  rw [List.drop_eq_getElem_cons hlt,List.find?_cons,List.getElem_range,show n - (k+1)+1=n - k by omega]
  cases h:rdy g out (n - (k+1)) with
  | true=>simp only [bestS,h];rfl
  | false=>simp only [bestS,h];exact ih
theorem best_pick (n:Nat)(g:Nat→List Nat)(out:List Nat):bestS n g out n=match pick n g out with | some f=>(f:Int) | none=>-1:=by
 rw [best_some n (Nat.le_refl _)]
 simp [pick]
theorem ord_none {n:Nat}{g:Nat→List Nat}{k:Nat}(h:ordN n g k=none):∀ j,ordN n g (k+j)=none
 | 0=>h
 | j+1=>by
  show (ordN n g (k+j)).bind _=none
  rw [ord_none h j]
  rfl
theorem ord_stuck {n:Nat}{g:Nat→List Nat}{out:List Nat}(h:ordN n g out.length=some out)(hl:out.length<n)(hp:pick n g out=none):ordS n g=none:=by
 have h1:ordN n g (out.length+1)=none:=by simp [ordN,h,hp]
 have:=ord_none h1 (n - (out.length+1))
 rw [show out.length+1+(n - (out.length+1))=n by omega] at this
 exact this
theorem ord_next {n:Nat}{g:Nat→List Nat}{out:List Nat}{f:Nat}(h:ordN n g out.length=some out)(hp:pick n g out=some f):ordN n g (out++[f]).length=some (out++[f]):=by
 rw [List.length_append,List.length_singleton]
 simp [ordN,h,hp]
def rdK (g:Nat→List Nat)(out:List Nat)(f q:Nat):Bool:=!out.contains f && ((g f).take q).all out.contains
theorem rdK_succ {g:Nat→List Nat}{out:List Nat}{f q:Nat}(h:q<(g f).length):rdK g out f (q+1)=(rdK g out f q && out.contains (g f)[q]):=by
 unfold rdK
 rw [List.take_succ_eq_append_getElem h,List.all_append]
 simp [Bool.and_assoc]
theorem rdK_all (g:Nat→List Nat)(out:List Nat)(f:Nat):rdK g out f (g f).length=rdy g out f:=by
 unfold rdK rdy
 rw [List.take_length]
def OrdEndN (s:Scr)(w:World)(e:Ending)(w':World):Prop:=OrdEnd s w e w'∧FreshE w e
set_option maxRecDepth 100000 in
set_option maxHeartbeats 1000000 in
theorem rorder_new (s:Scr)(V0 V1:Value)(w:World)(hs:ScIs w.cell? s V0 V1)(hsf:s.fits)(hI64:∀ f ∈ s.funcs,∀ x ∈ f.code,-9223372036854775808≤x.2∧x.2≤9223372036854775807):Calls Tryz.prog 26 #[.agg #[V0,V1]] w (OrdEndN s w):=by
 obtain ⟨⟨a0,c0,rfl,n0⟩,⟨a1,c1,rfl,n1⟩⟩:=hs
 have b1:=(Below.refl _ w).alloc (Nat.le_refl _) (.cells #[.slice a0 s.consts.length c0,.slice a1 s.funcs.length c1] 27)
 have hG:=rgraph_any s _ _ (w.alloc (.cells #[.slice a0 s.consts.length c0,.slice a1 s.funcs.length c1] 27)) ⟨⟨a0,c0,rfl,n0.keep (below_keep b1)⟩,⟨a1,c1,rfl,n1.keep (below_keep b1)⟩⟩ hsf hI64
 by_cases hr:s.right=true
 ·obtain ⟨r1,r2,r3⟩:=right_calls hr
  obtain ⟨i1,i2,i3,i4⟩:=graph_inn s
  have HG:Hid (Calls Tryz.prog 29 #[.agg #[.slice a0 s.consts.length c0,.slice a1 s.funcs.length c1]] (w.alloc (.cells #[.slice a0 s.consts.length c0,.slice a1 s.funcs.length c1] 27)) fun e w1=>∃ ga gc,e=.returned (.tuple #[.slice ga s.funcs.length gc,.int .i64 0])∧Hid (RsAt w1.cell? ga (rowsI (graphS s))∧Below w.heap.size w w1)):=hid7 (hG.mono fun e w1 ⟨h1,h2⟩=>by
   rw [if_pos hr] at h1
   obtain ⟨ga,gc,e1,h3⟩:=h1
   exact ⟨ga,gc,e1,hid7 ⟨h3,b1.trans (h2.mono b1.size)⟩⟩)
  have HI:=hid7 (And.intro i1 (And.intro i3 i4))
  have HE1:Hid (∀ W o,ordS s.funcs.length (gF s)=some o→∀ a c,NsAt W.cell? a (rowI o)→Below w.heap.size w W→FreshE w (.returned (.tuple #[.slice a o.length c,.int .i64 0]))→OrdEndN s w (.returned (.tuple #[.slice a o.length c,.int .i64 0])) W):=hid7 fun W o ho a c h1 h2 h3=>by
   refine ⟨⟨h2,?_⟩,h3⟩
   rw [if_pos hr,ho]
   exact ⟨a,c,rfl,h1⟩
  have HE2:Hid (∀ W,ordS s.funcs.length (gF s)=none→Below w.heap.size w W→OrdEndN s w (.returned (.tuple #[.slice none 0 0,.int .i64 34])) W):=hid7 fun W ho h2=>by
   refine ⟨⟨h2,?_⟩,fresh_nil _ _ _ _⟩
   rw [if_pos hr,ho]
  obtain ⟨G,hGe⟩:∃ G,G=graphS s:=⟨_,rfl⟩
  obtain ⟨n,hfe⟩:∃ fl,fl=s.funcs.length:=⟨_,rfl⟩
  unfold gF at HI HE1 HE2
  rw [← hfe,← hGe] at HG HI HE1 HE2
  rw [← hfe] at r1 r2 ⊢
  have HMk:Hid (∀ W:World,∃ W2,(Instr.makeSlice 98 (.int .i64 (n:Int)) (.int .i64 (n:Int))).run Tryz.prog W=.ok (.slice (some ⟨W.heap.size,0,none⟩) n n) W2∧Hid (Fill W2 W.heap.size 4 n (fun _=>.bool false)∧Below W.heap.size W W2)):=hid7 fun W=>by
   obtain ⟨W2,h1,h2,h3⟩:=made8 W 98 4 (.bool false) 1 n Tryz.underlying98 (by kernel_rfl) rfl (by omega) (by omega)
   exact ⟨W2,h1,hid7 ⟨h2,h3⟩⟩
  generalize s.consts.length=cl at HG ⊢
  clear hG hr r3 i1 i2 i3 i4 n0 n1 hsf hfe b1 hI64 hGe
  go_enter Tryz.func26,Tryz.ntmps26
  go_wp2_with (first
   | (go_at_call 29;refine HG.out.mono ?_;clear HG;rintro e w1 ⟨ga,gc,rfl,K1⟩;obtain ⟨w2,hm2,K2⟩:=HMk.out w1;clear HMk)
   | fail)
  have hGl:=HI.out.2.2
  have HRow:Hid (∀ W,Below w1.heap.size w1 W→∀ i<n,∃ gb go aj cj,ga=some ⟨gb,go,none⟩∧W.cell? ⟨gb,go+i,none⟩=some (.slice aj (gOf G i).length cj)∧NsAt (lowC w1.heap.size W) aj (rowI (gOf G i))∧(gOf G i).length≤16):=hid7 fun W hW i hi=>by
   obtain ⟨gb,go,aj,cj,h1,h2,h3,h4⟩:=row_at (K1.out.1.low hW) (f:=i) (by omega)
   refine ⟨gb,go,aj,cj,h1,h3,h4,?_⟩
   have:(gOf G i) ∈ G:=by
    unfold gOf
    rw [List.getD_eq_getElem?_getD,List.getElem?_eq_getElem (by omega)]
    exact List.getElem_mem _
   have:=HI.out.2.1 _ this
   omega
  have HIn:Hid (Inn n (gOf G)):=hid7 HI.out.1
  have B1:=hid7 K1.out.2
  clear hm2 HI hGl
  obtain ⟨g,hg⟩:∃ g,g=gOf G:=⟨_,rfl⟩
  rw [← hg] at HE1 HE2 HRow HIn
  clear hg K1
  have s2:=K2.out.2.size
  go_loopw [7] (fun ov wr=>∃ out:List Nat,Hid (wr.ownsRow w2.heap.size 3 1 ov out.length (cellsN (rowI out))∧Fill wr w1.heap.size 4 n (boolV fun x=>out.contains x)∧Below w1.heap.size w1 wr∧w2.heap.size≤wr.heap.size∧ordN n g out.length=some out∧out.length≤n)) (fun ov _=>n - slen ov)
  case atStart=>exact ⟨[],hid7 ⟨World.ownsRow_nil _ _ _ _,K2.out.1.congr fun j _=>by simp [boolV],K2.out.2,Nat.le_refl _,rfl,Nat.zero_le _⟩⟩
  case round =>
   obtain ⟨out,HL⟩:=hrel
   obtain ⟨wo,rfl⟩:∃ wo,wo=wr:=⟨_,rfl⟩
   obtain ⟨oa,oc,eov,hoc,_⟩:=row_form HL.out.1
   subst eov
   have hol:=HL.out.2.2.2.2.2
   have Bw:=hid7 (B1.out.trans (HL.out.2.2.1.mono B1.out.size))
   by_cases hlt:out.length<n
   ·have HRw:Hid (∀ i<n,∃ gb go aj cj,ga=some ⟨gb,go,none⟩∧wo.cell? ⟨gb,go+i,none⟩=some (.slice aj (g i).length cj)∧NsAt (lowC w1.heap.size wo) aj (rowI (g i))∧(g i).length≤16):=hid7 (HRow.out wo HL.out.2.2.1)
    have HFl:Hid (∀ i<n,wo.cell? ⟨w1.heap.size,i,none⟩=some (.bool (out.contains i))):=hid7 fun i hi=>HL.out.2.1.cell hi
    obtain ⟨ol,hole⟩:∃ ol,ol=out.length:=⟨_,rfl⟩
    have HOL:=hid7 hole
    rw [← hole] at hlt hol hoc ⊢
    clear hole HE1
    go_wp2_with fail
    go_loopw [8,9] (fun bv fv wr=>∃ (j:Nat) (x y:Int),bv=.int .i64 y∧fv=.int .i64 x∧j≤n∧x=(j:Int) - 1∧Hid (y=bestS n g out (n - j))∧wo=wr) (fun _ fv _=>((intOf fv)+1).toNat)
    case atStart=>exact ⟨n,(n:Int) - 1,-1,rfl,by go_num,Nat.le_refl _,rfl,hid7 (by rw [Nat.sub_self];rfl),rfl⟩
    case round =>
     obtain ⟨j,x,y,rfl,rfl,hj,hx,Hy,rfl⟩:=hrel
     cases j with
     | zero =>
      obtain rfl:x=-1:=by omega
      have hp:=best_pick n g out
      have hy:=Hy.out
      rw [Nat.sub_zero,hp] at hy
      have hlt2:out.length<n:=by rw [← HOL.out];exact hlt
      have f2:=HL.out.2.2.1.size
      cases hpk:pick n g out with
      | none =>
       rw [hpk] at hy
       have hy':y=-1:=hy
       subst hy'
       have HE:=hid7 (HE2.out wo (ord_stuck HL.out.2.2.2.2.1 hlt2 hpk) Bw.out)
       clear hx HRow HIn HRw HFl HL Hy hp hy hpk HE2
       go_wp2_with fail
       go_ret2
       exact HE.out
      | some f0 =>
       rw [hpk] at hy
       have hy':y=(f0:Int):=hy
       subst hy'
       obtain ⟨hf0,hrd0⟩:=pick_some hpk
       have g1:=HFl.out f0 hf0
       have g2:=HL.out.2.1.frozen f0
       have hord:=ord_next HL.out.2.2.2.2.1 hpk
       have HW:Hid (∀ W,W=wo.setCell ⟨w1.heap.size,f0,none⟩ (.bool true)→W.ownsRow w2.heap.size 3 1 (.slice oa ol oc) ol (cellsN (rowI out))∧Fill W w1.heap.size 4 n (boolV fun x=>(out++[f0]).contains x)∧Below w1.heap.size w1 W∧w2.heap.size≤W.heap.size):=hid7 fun W hW=>by
        subst hW
        refine ⟨?_,(HL.out.2.1.set f0 _).congr fun j _=>?_,HL.out.2.2.1.setCell (p:=⟨w1.heap.size,f0,none⟩) (Nat.le_refl _) _,by simp [World.setCell];exact HL.out.2.2.2.1⟩
        ·have:=HL.out.1
         rw [← HOL.out] at this
         have hw12:=K2.out.1.lt
         exact row_blk this fun g hb _ _=>Below.heap_setCell _ _ _ _ (by show g≠w1.heap.size;omega)
        ·simp only [boolV]
         by_cases e:j=f0
         ·rw [if_pos e,e];simp
         ·rw [if_neg e];simp [e]
       obtain ⟨W,hW⟩:∃ W,W=wo.setCell ⟨w1.heap.size,f0,none⟩ (.bool true):=⟨_,rfl⟩
       obtain ⟨R5,F5,B5,z5⟩:=HW.out W hW
       have R6:Hid ((W.alloc (.cells #[.int .i64 (f0:Int)] 3)).ownsRow w2.heap.size 3 1 (.slice oa ol oc) ol (cellsN (rowI out))):=hid7 (R5.alloc _)
       have bA:Below W.heap.size W (W.alloc (.cells #[.int .i64 (f0:Int)] 3)):=(Below.refl _ _).alloc (Nat.le_refl _) _
       have K5:=hid7 (And.intro F5 (And.intro B5 (And.intro z5 (And.intro hord bA))))
       rw [hW] at R6
       clear hx HRow HIn HRw HFl HL Hy hp hy hpk HE2 HW R5 F5 B5 hord bA hrd0
       have z6:w2.heap.size≤wo.heap.size:=by rw [hW] at z5;simpa [World.setCell] using z5
       go_wp2_with (first
        | (at_builtin;refine wpList_appN _ rfl _ _ 28 rfl elemN_int w2.heap.size _ ol (cellsN (rowI out)) rfl R6.out _ rfl 1 [.int .i64 (f0:Int)] (.inr ⟨⟨_,0,none⟩,1,rfl,cells_new8 _ [.int .i64 (f0:Int)] 3 _ (by simp [World.setCell])⟩) rfl (by simp [Value.oneCell']) (by unfold maxLen;omega) (by omega) (by simp [World.setCell];omega) ?_;intro v' w6 hr6 hs6)
        | fail)
       obtain ⟨va6,vc6,e6,_,_⟩:=row_form hr6
       subst e6
       obtain ⟨F5,B5,z5',hord,bA⟩:=K5.out
       have hs7:Step (W.alloc (.cells #[.int .i64 (f0:Int)] 3)) (.slice oa ol oc) w6 (.slice va6 (ol+1) vc6):=by rw [hW];exact hs6
       rw [← hW] at R6
       have b6:=hs7.below (B:=w2.heap.size) (by simp;omega) (fun g e=>(R6.out.lt g e).1)
       have b7:Below w2.heap.size W w6:=(bA.mono z5).trans b6
       have hw12:=K2.out.1.lt
       refine ⟨⟨out++[f0],hid7 ⟨?_,F5.keep (b7.block _ hw12),B5.trans (b7.mono (by omega)),Nat.le_trans z5 b7.size,hord,by rw [List.length_append,List.length_singleton];omega⟩⟩,by simp only [slen];show n - (ol+1)<n - ol;omega⟩
       rw [List.length_append,List.length_singleton,← HOL.out,show cellsN (rowI (out++[f0]))=cellsN (rowI out)++[.int .i64 (f0:Int)] by simp [cellsN,rowI]]
       exact hr6
     | succ j =>
      obtain rfl:x=(j:Int):=by omega
      clear hx
      obtain ⟨gb,go,aj,cj,ega,hrow,hns,hlen⟩:=HRw.out j (by omega)
      subst ega
      have hfj:=HFl.out j (by omega)
      have HB1:Hid (bestS n g out (n - j)=if rdy g out j=true then (j:Int) else y):=hid7 (by
       have:=Hy.out
       rw [show n - j=(n - (j+1))+1 by omega,bestS,show n - (n - (j+1)+1)=j by omega,← this])
      have HNs:=hid7 hns
      obtain ⟨gl,hgl⟩:∃ gl,gl=(g j).length:=⟨_,rfl⟩
      have HGL:=hid7 hgl
      rw [← hgl] at hrow hlen
      have HR0:Hid (out.contains j=!rdK g out j 0):=hid7 (by simp [rdK])
      rw [HR0.out] at hfj
      clear hns hgl Hy HR0
      go_wp2_with fail
      go_loopw [10,11] (fun rv qv wr=>∃ (q:Nat),qv=.int .i64 q∧q≤gl∧rv=.bool (rdK g out j q)∧wo=wr) (fun _ qv _=>gl - (intOf qv).toNat)
      case atStart=>exact ⟨0,rfl,Nat.zero_le _,by simp,rfl⟩
      case round =>
       obtain ⟨q,rfl,hq,rfl,rfl⟩:=hrel
       by_cases hql:q<gl
       ·have hql2:q<(g j).length:=by rw [← HGL.out];exact hql
        obtain ⟨bj,oj,eaj,_,hc⟩:=row_cell HNs.out hql2
        have hcn:(g j)[q]<n:=HIn.out j (by omega) _ (List.getElem_mem hql2)
        have hcc:=HFl.out _ hcn
        have HS:=hid7 (rdK_succ (out:=out) hql2)
        subst eaj
        generalize (g j)[q]=c at *
        generalize out.contains c=oc' at *
        clear HNs HRw HFl HRow HIn HB1 HGL
        cases hrq:rdK g out j q with
        | true =>
         rw [hrq] at HS
         go_wp2_with fail
         exact ⟨⟨q+1,by go_num,by omega,by rw [HS.out];simp,trivial⟩,by simp [intOf];omega⟩
        | false =>
         rw [hrq] at HS
         go_wp2_with fail
         exact ⟨⟨q+1,by go_num,by omega,by rw [HS.out];simp,trivial⟩,by simp [intOf];omega⟩
       ·obtain rfl:q=gl:=by omega
        have HRd:Hid (rdK g out j q=rdy g out j):=hid7 (by rw [HGL.out];exact rdK_all g out j)
        rw [HRd.out]
        clear HNs HRw HFl HRow HIn HGL HRd
        cases hrd:rdy g out j with
        | true =>
         rw [hrd] at HB1
         go_wp2_with fail
         exact ⟨⟨j,(j:Int) - 1,(j:Int),rfl,by go_num,by omega,rfl,hid7 (by rw [HB1.out];simp),trivial⟩,by simp [intOf]⟩
        | false =>
         rw [hrd] at HB1
         go_wp2_with fail
         exact ⟨⟨j,(j:Int) - 1,y,rfl,by go_num,by omega,rfl,hid7 (by rw [HB1.out];simp),trivial⟩,by simp [intOf]⟩
   ·have hln:out.length=n:=by omega
    have HE:=hid7 (HE1.out wo out (by have:=HL.out.2.2.2.2.1;rw [hln] at this;exact this) oa oc (nst_own HL.out.1).ns Bw.out (fresh_row HL.out.1 (Nat.le_trans B1.out.size s2)))
    generalize out.length=ol at *
    subst hln
    clear HE1 HE2 HRow HIn HL
    go_wp2_with fail
    go_ret2
    exact HE.out
 ·have HG:Hid (Calls Tryz.prog 29 #[.agg #[.slice a0 s.consts.length c0,.slice a1 s.funcs.length c1]] (w.alloc (.cells #[.slice a0 s.consts.length c0,.slice a1 s.funcs.length c1] 27)) fun e w1=>e=.returned (.tuple #[.slice none 0 0,.int .i64 30])∧Hid (OrdEndN s w (.returned (.tuple #[.slice none 0 0,.int .i64 30])) w1)):=hid7 (hG.mono fun e w1 ⟨h1,h2⟩=>by
   rw [if_neg hr] at h1
   refine ⟨h1,hid7 ⟨⟨b1.trans (h2.mono b1.size),?_⟩,fresh_nil _ _ _ _⟩⟩
   rw [if_neg hr])
  generalize s.consts.length=cl at HG ⊢
  generalize s.funcs.length=fl at HG ⊢
  clear hG hr n0 n1 hsf b1 hI64
  go_enter Tryz.func26,Tryz.ntmps26
  go_wp2_with (first | (go_at_call 29;refine HG.out.mono ?_;clear HG;rintro e w1 ⟨rfl,K1⟩) | fail)
  go_ret2
  exact K1.out
theorem rorder_any (s:Scr)(V0 V1:Value)(w:World)(hs:ScIs w.cell? s V0 V1)(hsf:s.fits)(hI64:∀ f ∈ s.funcs,∀ x ∈ f.code,-9223372036854775808≤x.2∧x.2≤9223372036854775807):Calls Tryz.prog 26 #[.agg #[V0,V1]] w (OrdEnd s w):=(rorder_new s V0 V1 w hs hsf hI64).mono fun _ _ h=>h.1
def DpI (g:Nat→List Nat)(o:List Nat)(i:Nat)(d:Nat→Nat):Prop:=(∀ x ∈ o.take i,d x=mx (fun c=>some (d c)) (g x)+1)∧∀ x,d x≤i
theorem dpI_zero (g:Nat→List Nat)(o:List Nat):DpI g o 0 (fun _=>0):=⟨by simp,fun _=>Nat.le_refl _⟩
def dput (d:Nat→Nat)(f v:Nat):Nat→Nat:=fun x=>if x=f then v else d x
theorem mxK_le {d:Nat→Nat}{i:Nat}(h:∀ x,d x≤i)(l:List Nat):mx (fun c=>some (d c)) l≤i:=mx_le l 0 (Nat.zero_le _) fun c _=>h c
theorem dpI_step {n:Nat}{g:Nat→List Nat}{o:List Nat}{i:Nat}{d:Nat→Nat}(ht:Told n g o)(hi:i<o.length)(h:DpI g o i d):DpI g o (i+1) (dput d o[i] (mx (fun c=>some (d c)) (g o[i])+1)):=by
 obtain ⟨t1,t2,t3⟩:=ht i hi
 have ne:∀ c,c ∈ o.take i→dput d o[i] (mx (fun c=>some (d c)) (g o[i])+1) c=d c:=fun c hc=>by
  unfold dput
  rw [if_neg (fun e=>t2 (by rw [← e];exact hc))]
 refine ⟨fun x hx=>?_,fun x=>?_⟩
 ·rw [List.take_succ_eq_append_getElem hi] at hx
  rcases List.mem_append.1 hx with e | e
  ·rw [ne x e,h.1 x e]
   congr 1
   obtain ⟨j,hj,ej⟩:=List.mem_take_iff_getElem.1 e
   have hcj:=(ht j (by omega)).2.2
   refine mx_congr fun c hc=>?_
   rw [ne c]
   have:=hcj c (by rw [ej];exact hc)
   exact (List.take_sublist_take_left (by omega)).subset this
  ·obtain rfl:=List.mem_singleton.1 e
   have e2:dput d o[i] (mx (fun c=>some (d c)) (g o[i])+1) o[i]=mx (fun c=>some (d c)) (g o[i])+1:=by simp [dput]
   rw [e2]
   congr 1
   exact mx_congr fun c hc=>by rw [ne c (t3 c hc)]
 ·unfold dput
  have:=mxK_le h.2 (g o[i])
  have:=h.2 x
  split <;> omega
theorem dpI_end {n:Nat}{g:Nat→List Nat}{o:List Nat}{d:Nat→Nat}(ht:Told n g o)(hl:o.length=n)(h:DpI g o n d):DeepIs n g d:=fun x hx=>h.1 x (by rw [← hl,List.take_length];exact told_all ht hl hx)
def DeepEndN (s:Scr)(w:World)(e:Ending)(w':World):Prop:=DeepEnd s w e w'∧FreshE w e
set_option maxRecDepth 100000 in
set_option maxHeartbeats 1000000 in
theorem rdeep_new (s:Scr)(V0 V1:Value)(w:World)(hs:ScIs w.cell? s V0 V1)(hsf:s.fits)(hI64:∀ f ∈ s.funcs,∀ x ∈ f.code,-9223372036854775808≤x.2∧x.2≤9223372036854775807):Calls Tryz.prog 28 #[.agg #[V0,V1]] w (DeepEndN s w):=by
 obtain ⟨⟨a0,c0,rfl,n0⟩,⟨a1,c1,rfl,n1⟩⟩:=hs
 have hs:ScIs w.cell? s (.slice a0 s.consts.length c0) (.slice a1 s.funcs.length c1):=⟨⟨a0,c0,rfl,n0⟩,⟨a1,c1,rfl,n1⟩⟩
 have b1:=(Below.refl _ w).alloc (Nat.le_refl _) (.cells #[.slice a0 s.consts.length c0,.slice a1 s.funcs.length c1] 27)
 have e0:=heap_alloc_new w (.cells #[.slice a0 s.consts.length c0,.slice a1 s.funcs.length c1] 27)
 have hG:=rorder_any s _ _ (w.alloc (.cells #[.slice a0 s.consts.length c0,.slice a1 s.funcs.length c1] 27)) (hs.keep (below_keep b1)) hsf hI64
 by_cases hx:s.right=true∧∃ o,ordS s.funcs.length (gF s)=some o
 ·obtain ⟨hr,o,ho⟩:=hx
  obtain ⟨r1,r2,r3⟩:=right_calls hr
  obtain ⟨i1,i2,i3,i4⟩:=graph_inn s
  have hot:=ord_told ho
  have HG:Hid (Calls Tryz.prog 26 #[.agg #[.slice a0 s.consts.length c0,.slice a1 s.funcs.length c1]] (w.alloc (.cells #[.slice a0 s.consts.length c0,.slice a1 s.funcs.length c1] 27)) fun e w1=>∃ la lc,e=.returned (.tuple #[.slice la s.funcs.length lc,.int .i64 0])∧w1.cell? ⟨w.heap.size,0,none⟩=some (.slice a0 s.consts.length c0)∧w1.cell? ⟨w.heap.size,1,none⟩=some (.slice a1 s.funcs.length c1)∧Hid (NsAt w1.cell? la (rowI o)∧Below w.heap.size w w1)∧Hid (Calls Tryz.prog 29 #[.agg #[.slice a0 s.consts.length c0,.slice a1 s.funcs.length c1]] w1 fun e w2=>∃ ga gc,e=.returned (.tuple #[.slice ga s.funcs.length gc,.int .i64 0])∧Hid (RsAt w2.cell? ga (rowsI (graphS s))∧Below w1.heap.size w1 w2))):=hid7 (hG.mono fun e w1 ⟨h1,h2⟩=>by
   rw [if_pos hr,ho] at h2
   obtain ⟨la,lc,e1,h3⟩:=h2
   have bw:=b1.trans (h1.mono b1.size)
   have e3:=(h1.block _ (heap_lt e0)).trans e0
   refine ⟨la,lc,by rw [e1,hot.1],Lib.cell_of_heap e3 0,Lib.cell_of_heap e3 1,hid7 ⟨h3,bw⟩,hid7 ((rgraph_any s _ _ w1 (hs.keep (below_keep bw)) hsf hI64).mono fun e w2 ⟨h4,h5⟩=>?_)⟩
   rw [if_pos hr] at h4
   obtain ⟨ga,gc,e4,h6⟩:=h4
   exact ⟨ga,gc,e4,hid7 ⟨h6,h5⟩⟩)
  have HEnd:Hid (∀ W lb (d:Nat→Nat),Below w.heap.size w W→DeepIs s.funcs.length (gF s) d→(∀ x<s.funcs.length,d x≤1000)→Fill W lb 3 s.funcs.length (fun j=>.int .i64 (d j:Nat))→w.heap.size≤lb→DeepEndN s w (.returned (.tuple #[.slice (some ⟨lb,0,none⟩) s.funcs.length s.funcs.length,.int .i64 0])) W):=hid7 fun W lb d h1 h2 h3 h4 h5=>by
   refine ⟨⟨h1,?_⟩,fresh_at h5⟩
   rw [if_pos hr,if_neg (by rw [ho];simp)]
   refine ⟨_,_,d,rfl,.inr ⟨lb,0,rfl,fun j hj=>?_⟩,h2,h3⟩
   have hj2:j<s.funcs.length:=by simpa [deepL] using hj
   rw [Nat.zero_add,h4.cell hj2]
   simp [deepL]
  have HI:=hid7 (And.intro hot (And.intro i1 (And.intro i3 i4)))
  obtain ⟨G,hGe⟩:∃ G,G=graphS s:=⟨_,rfl⟩
  obtain ⟨n,hfe⟩:∃ fl,fl=s.funcs.length:=⟨_,rfl⟩
  unfold gF at HI HEnd
  rw [← hfe,← hGe] at HG HI HEnd
  rw [← hfe] at r1 ⊢
  have HMk:Hid (∀ W:World,∃ W2,(Instr.makeSlice 28 (.int .i64 (n:Int)) (.int .i64 (n:Int))).run Tryz.prog W=.ok (.slice (some ⟨W.heap.size,0,none⟩) n n) W2∧Hid (Fill W2 W.heap.size 3 n (fun _=>.int .i64 0)∧Below W.heap.size W W2)):=hid7 fun W=>by
   obtain ⟨W2,h1,h2,h3⟩:=made8 W 28 3 (.int .i64 0) 8 n Tryz.underlying28 (by kernel_rfl) rfl (by omega) (by omega)
   exact ⟨W2,h1,hid7 ⟨h2,h3⟩⟩
  generalize s.consts.length=cl at HG ⊢
  clear hG hr r2 r3 i1 i2 i3 i4 n0 n1 hsf hfe b1 hI64 hGe hs e0 ho hot
  go_enter Tryz.func28,Tryz.ntmps28
  go_wp2_with (first
   | (go_at_call 26;refine HG.out.mono ?_;clear HG;rintro e w1 ⟨la,lc,rfl,d0,d1,K1,H1⟩)
   | (go_at_call 29;refine H1.out.mono ?_;clear H1;rintro e w2 ⟨ga,gc,rfl,K2⟩;obtain ⟨w3,hm3,K3⟩:=HMk.out w2;clear HMk)
   | fail)
  have hGl:=HI.out.2.2.2
  have HRow:Hid (∀ W,Below w2.heap.size w2 W→∀ i<n,∃ gb go aj cj,ga=some ⟨gb,go,none⟩∧W.cell? ⟨gb,go+i,none⟩=some (.slice aj (gOf G i).length cj)∧NsAt (lowC w2.heap.size W) aj (rowI (gOf G i))∧(gOf G i).length≤16):=hid7 fun W hW i hi=>by
   obtain ⟨gb,go,aj,cj,h1,h2,h3,h4⟩:=row_at (K2.out.1.low hW) (f:=i) (by omega)
   refine ⟨gb,go,aj,cj,h1,h3,h4,?_⟩
   have:(gOf G i) ∈ G:=by
    unfold gOf
    rw [List.getD_eq_getElem?_getD,List.getElem?_eq_getElem (by omega)]
    exact List.getElem_mem _
   have:=HI.out.2.2.1 _ this
   omega
  have HO:Hid (∀ W,Below w2.heap.size w2 W→NsAt (lowC w2.heap.size W) la (rowI o)):=hid7 fun W hW=>K1.out.1.keep fun x v hx=>by
   have h1:=K2.out.2.cell (World.block_lt_of_cell? w1 x hx)
   have h2:=h1.trans hx
   exact lowC_mk (World.block_lt_of_cell? w2 x h2) ((hW.cell (World.block_lt_of_cell? w2 x h2)).trans h2)
  have HIn:Hid (Inn n (gOf G)∧o.length=n∧Told n (gOf G) o):=hid7 ⟨HI.out.2.1,HI.out.1⟩
  have B2:=hid7 (K1.out.2.trans (K2.out.2.mono K1.out.2.size))
  clear hm3 HI hGl
  obtain ⟨g,hg⟩:∃ g,g=gOf G:=⟨_,rfl⟩
  rw [← hg] at HEnd HRow HIn
  clear hg K1 K2
  go_loopw [9] (fun iv wr=>∃ (i:Nat) (d:Nat→Nat),iv=.int .i64 i∧i≤n∧Hid (Fill wr w2.heap.size 3 n (fun j=>.int .i64 (d j:Nat))∧DpI g o i d∧Below w2.heap.size w2 wr)) (fun iv _=>n - (intOf iv).toNat)
  case atStart=>exact ⟨0,fun _=>0,rfl,Nat.zero_le _,hid7 ⟨K3.out.1,dpI_zero g o,K3.out.2⟩⟩
  case round =>
   obtain ⟨i,d,rfl,hi,HL⟩:=hrel
   obtain ⟨wo,rfl⟩:∃ wo,wo=wr:=⟨_,rfl⟩
   clear K3
   by_cases hin:i<n
   ·have hio:i<o.length:=by rw [HIn.out.2.1];exact hin
    obtain ⟨ob,oo,eoa,_,hof⟩:=row_cell (HO.out wo HL.out.2.2) hio
    have hfn:=(HIn.out.2.2 i hio).1
    obtain ⟨gb,go,aj,cj,ega,hrow,hns,hlen⟩:=HRow.out wo HL.out.2.2 o[i] hfn
    have hD:=dpI_step HIn.out.2.2 hio HL.out.2.1
    subst eoa ega
    have HNs:=hid7 hns
    have HFl:Hid (∀ c<n,wo.cell? ⟨w2.heap.size,c,none⟩=some (.int .i64 (d c:Nat))):=hid7 fun c hc=>HL.out.1.cell hc
    have hfz:=HL.out.1.frozen o[i]
    have hfo:=HL.out.1.cell hfn
    have HCn:Hid (∀ c ∈ g o[i],c<n):=hid7 fun c hc=>HIn.out.1 _ hfn c hc
    have HDb:Hid (∀ l,mx (fun c=>some (d c)) l≤16):=hid7 fun l=>by have:=mxK_le HL.out.2.1.2 l;omega
    have HDd:Hid (∀ x,d x≤16):=hid7 fun x=>by have:=HL.out.2.1.2 x;omega
    generalize o[i]=f at *
    obtain ⟨gl,hgl⟩:∃ gl,gl=(g f).length:=⟨_,rfl⟩
    have HGL:=hid7 hgl
    rw [← hgl] at hrow hlen
    have HDs:=hid7 hD
    clear hns hgl hD HO HRow HIn HEnd hio
    go_wp2_with fail
    go_loopw [10,11] (fun nv qv wr=>∃ (q nn:Nat),nv=.int .i64 nn∧qv=.int .i64 q∧q≤gl∧nn≤16∧Hid (nn=mx (fun c=>some (d c)) ((g f).take q))∧wo=wr) (fun _ qv _=>gl - (intOf qv).toNat)
    case atStart=>exact ⟨0,0,rfl,rfl,Nat.zero_le _,by omega,hid7 rfl,rfl⟩
    case round =>
     obtain ⟨q,nn,rfl,rfl,hq,hnn,Hn,rfl⟩:=hrel
     by_cases hql:q<gl
     ·have hql2:q<(g f).length:=by rw [← HGL.out];exact hql
      obtain ⟨bj,oj,eaj,_,hc⟩:=row_cell HNs.out hql2
      have hcn:(g f)[q]<n:=HCn.out _ (List.getElem_mem hql2)
      have hcc:=HFl.out _ hcn
      have HS:Hid (max nn (d (g f)[q])=mx (fun c=>some (d c)) ((g f).take (q+1))):=hid7 (by rw [List.take_succ_eq_append_getElem hql2,mx_snoc,← Hn.out];rfl)
      have hdc:=HDd.out (g f)[q]
      subst eaj
      generalize (g f)[q]=c at *
      generalize d c=dc at *
      clear HNs HFl HCn HDb HDd HGL Hn HDs HL
      go_wp2_with fail
      exact ⟨⟨q+1,max nn dc,by congr 1;omega,by go_num,by omega,by omega,HS,trivial⟩,by simp [intOf];omega⟩
     ·obtain rfl:q=gl:=by omega
      have L5:Hid (Fill (wo.setCell ⟨w2.heap.size,f,none⟩ (.int .i64 ((nn:Int)+1))) w2.heap.size 3 n (fun j=>.int .i64 (dput d f (mx (fun c=>some (d c)) (g f)+1) j:Nat))∧DpI g o (i+1) (dput d f (mx (fun c=>some (d c)) (g f)+1))∧Below w2.heap.size w2 (wo.setCell ⟨w2.heap.size,f,none⟩ (.int .i64 ((nn:Int)+1)))):=hid7 ⟨(HL.out.1.set f _).congr fun j _=>by
       have hn2:=Hn.out
       rw [HGL.out,List.take_length] at hn2
       rw [← hn2]
       unfold dput
       by_cases e:j=f
       ·rw [if_pos e,if_pos e];rfl
       ·rw [if_neg e,if_neg e],HDs.out,HL.out.2.2.setCell (p:=⟨w2.heap.size,f,none⟩) (Nat.le_refl _) _⟩
      generalize d f=df at hfo
      clear HNs HFl HCn HDb HDd HGL Hn HDs HL
      go_wp2_with fail
      exact ⟨⟨i+1,_,by go_num,by omega,L5⟩,by simp [intOf];omega⟩
   ·obtain rfl:i=n:=by omega
    have HE:=hid7 (HEnd.out wo w2.heap.size d (B2.out.trans (HL.out.2.2.mono B2.out.size)) (dpI_end HIn.out.2.2 HIn.out.2.1 HL.out.2.1) (fun x _=>by have:=HL.out.2.1.2 x;omega) HL.out.1 B2.out.size)
    clear HL HRow HO HIn HEnd
    go_wp2_with fail
    go_ret2
    exact HE.out
 ·have HG:Hid (Calls Tryz.prog 26 #[.agg #[.slice a0 s.consts.length c0,.slice a1 s.funcs.length c1]] (w.alloc (.cells #[.slice a0 s.consts.length c0,.slice a1 s.funcs.length c1] 27)) fun e w1=>∃ c:Int,(c != 0)=true∧e=.returned (.tuple #[.slice none 0 0,.int .i64 c])∧Hid (DeepEndN s w (.returned (.tuple #[.slice none 0 0,.int .i64 c])) w1)):=hid7 (hG.mono fun e w1 ⟨h1,h2⟩=>by
   have bb:=b1.trans (h1.mono b1.size)
   by_cases hr:s.right=true
   ·rw [if_pos hr] at h2
    have ho:ordS s.funcs.length (gF s)=none:=by
     cases e:ordS s.funcs.length (gF s) with
     | none=>rfl
     | some o=>exact absurd ⟨hr,o,e⟩ hx
    rw [ho] at h2
    exact ⟨34,by decide,h2,hid7 ⟨⟨bb,by rw [if_pos hr,if_pos (by rw [ho];rfl)]⟩,fresh_nil _ _ _ _⟩⟩
   ·rw [if_neg hr] at h2
    exact ⟨30,by decide,h2,hid7 ⟨⟨bb,by rw [if_neg hr]⟩,fresh_nil _ _ _ _⟩⟩)
  clear hG hx n0 n1 hsf b1 hs e0 hI64
  generalize s.consts.length=cl at HG ⊢
  generalize s.funcs.length=fl at HG ⊢
  go_enter Tryz.func28,Tryz.ntmps28
  go_wp2_with (first
   | (go_at_call 26;refine HG.out.mono ?_;clear HG;rintro e w1 ⟨c,hc,rfl,K1⟩)
   | fail)
  go_ret2
  exact K1.out
end Go.Proofs.YtpmlnkjamhelnaaGreat
