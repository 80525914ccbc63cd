/- Layer 10: the document's Of of any script: what is asked of it, and where it tells an error. Layer 10: the document's Of of any script. -/
import Derived.Test.YtpmlnkjamhelnaaGreatZG
import Derived.Test.YtpmlnkjamhelnaaGreatUH
import Derived.Test.YtpmlnkjamhelnaaGreatXR
import Derived.Test.YtpmlnkjamhelnaaGreatYU
import Derived.Test.YtpmlnkjamhelnaaGreatRK
import Derived.BigRegion
import Derived.Test.YtpmlnkjamhelnaaGreatCB
namespace Go.Proofs.YtpmlnkjamhelnaaGreat
open Go.RowKit
theorem offH_gt {w:World}{v:Value}{B g:Nat}{b:Obj}(h:offH w v B g=some b):B<g:=by
 unfold offH at h
 split at h
 ·cases h
 ·rename_i hn
  exact Nat.lt_of_not_le fun e=>hn (.inr e)
theorem own_hi {W:World}{v u:Value}{B B' j:Nat}{γ:Nat→Nat}{ns:List Int}(h:NsOwn (offH W v B) γ j u ns)(hB:B'≤B):∃ a c,u=.slice a ns.length c∧NsAt (hiC B' W) a ns:=by
 obtain ⟨a,c,rfl,h⟩:=h
 refine ⟨a,c,rfl,?_⟩
 rcases h with ⟨_,_,rfl⟩ | ⟨g,cur,rfl,h2,h3,h4,h5,h6,_⟩
 ·exact .inl rfl
 ·have hg:=offH_gt h2
  have hb:=offH_le _ _ h2
  refine .inr ⟨g,0,rfl,fun j hj=>hiC_at (by simp only;omega) ?_⟩
  rw [Nat.zero_add,Lib.cell_of_heap hb,← Array.getElem?_toList,← List.getElem?_take_of_lt hj,h6]
  simp [cellsN,hj]
theorem ins_hi {W:World}{v u:Value}{B B':Nat}{cs:List (Int × Int)}(h:IsOwn (offH W v B) u cs)(hB:B'≤B):∃ a c,u=.slice a cs.length c∧IsAt (hiC B' W) a cs:=by
 obtain ⟨a,c,rfl,h⟩:=h
 refine ⟨a,c,rfl,?_⟩
 rcases h with rfl | ⟨g,cur,rfl,h2,h3⟩
 ·exact .inl rfl
 ·have hg:=offH_gt h2
  have hb:=offH_le _ _ h2
  refine .inr ⟨g,0,rfl,fun j hj=>?_⟩
  obtain ⟨g0,g1⟩:=cellsI_at cs j hj
  refine ⟨hiC_at (by simp only;omega) ?_,hiC_at (by simp only;omega) ?_⟩
  ·rw [Nat.zero_add,Lib.cell_of_heap hb,← Array.getElem?_toList,← List.getElem?_take_of_lt (show j*2<cs.length*2 by omega),h3]
   exact g0
  ·rw [Nat.zero_add,Lib.cell_of_heap hb,← Array.getElem?_toList,← List.getElem?_take_of_lt (show j*2+1<cs.length*2 by omega),h3]
   exact g1
theorem clone_hi {s:Scr}{w w':World}{e:Ending}(h:CloneAll s w e w'):∃ a0 c0 a1 c1,e=.returned (.agg #[.slice a0 s.consts.length c0,.slice a1 s.funcs.length c1])∧Below w.heap.size w w'∧ScIs (hiC w.heap.size w') s (.slice a0 s.consts.length c0) (.slice a1 s.funcs.length c1):=by
 obtain ⟨u0,u1,xs,γ,B,fb,he,hb,hB,hB2,hc,hf,hfl,hr⟩:=h
 obtain ⟨_,a0,c0,rfl,_,n0⟩:=ss_of_row hc (C:=hiC w.heap.size w') fun a x h1 h2=>hiC_at h1 h2
 have hF:FRow (hiC w.heap.size w') s.funcs xs:=⟨hr.1,fun j hj=>by
  obtain ⟨v0,v1,v2,v3,q0,q1,q2,q3,⟨f0,f1,f2,f3⟩⟩:=hr.2 j hj
  exact ⟨v0,v1,v2,v3,q0,q1,q2,q3,own_hi f0 hB,own_hi f1 hB,own_hi f2 hB,ins_hi f3 hB⟩⟩
 obtain ⟨_,a1,c1,rfl,_,n1⟩:=fs_of_row' hf hF fun a x h1 h2=>hiC_at (Nat.le_trans hfl h1) h2
 exact ⟨a0,c0,a1,c1,he,hb,⟨a0,c0,rfl,n0⟩,⟨a1,c1,rfl,n1⟩⟩
theorem load_repd {w:World}{b:Nat}{x0 x1 x2 x3 x4 x5 x6:Value}(h0:w.cell? ⟨b,0,none⟩=some x0)(h1:w.cell? ⟨b,1,none⟩=some x1)(h2:w.cell? ⟨b,2,none⟩=some x2)(h3:w.cell? ⟨b,3,none⟩=some x3)(h4:w.cell? ⟨b,4,none⟩=some x4)(h5:w.cell? ⟨b,5,none⟩=some x5)(h6:w.cell? ⟨b,6,none⟩=some x6):(loadVar 34 ⟨b,0,none⟩).run Tryz.prog w=.ok (.agg #[x0,x1,x2,x3,x4,x5,x6]) w:=by
 simp [loadVar,go_sem,h0,h1,h2,h3,h4,h5,h6]
theorem set7_blkd {W:World}{b:Nat}(h:W.heap[b]?=some (.cells zero7 34 (0,0)))(x0 x1 x2 x3 x4 x5 x6:Value):(set7 W b x0 x1 x2 x3 x4 x5 x6).heap[b]?=some (.cells #[x0,x1,x2,x3,x4,x5,x6] 34 (0,0)):=by
 unfold set7
 have e0:=heap_setCell_same W b 0 _ _ x0 h
 have e1:=heap_setCell_same _ b 1 _ _ x1 e0
 have e2:=heap_setCell_same _ b 2 _ _ x2 e1
 have e3:=heap_setCell_same _ b 3 _ _ x3 e2
 have e4:=heap_setCell_same _ b 4 _ _ x4 e3
 have e5:=heap_setCell_same _ b 5 _ _ x5 e4
 have e6:=heap_setCell_same _ b 6 _ _ x6 e5
 rw [e6]
 rfl
theorem ret_repd {fn:Func}{R:Ending→World→Prop}{a:Act}{t u:Tmp}{W:World}{b:Nat}{x0 x1 x2 x3 x4 x5 x6 z:Value}(h:fn.results=#[.cell t 34,.tmp u])(ha:a.tmps[t]?.getD undef=.pointer (some ⟨b,0,none⟩))(hd:a.defers=[])(hu:a.tmps[u]?.getD undef=z)(hb:W.heap[b]?=some (.cells zero7 34 (0,0)))(hR:R (.returned (.tuple #[.agg #[x0,x1,x2,x3,x4,x5,x6],z])) (set7 W b x0 x1 x2 x3 x4 x5 x6)):bodyPost Tryz.prog fn R .ret a (set7 W b x0 x1 x2 x3 x4 x5 x6):=by
 have e:=set7_blkd hb x0 x1 x2 x3 x4 x5 x6
 have hl:=load_repd (x0:=x0) (x1:=x1) (x2:=x2) (x3:=x3) (x4:=x4) (x5:=x5) (x6:=x6) (Lib.cell_of_heap e 0) (Lib.cell_of_heap e 1) (Lib.cell_of_heap e 2) (Lib.cell_of_heap e 3) (Lib.cell_of_heap e 4) (Lib.cell_of_heap e 5) (Lib.cell_of_heap e 6)
 have h1:=results_mix4 h _ _ _ _ _ ha hl
 rw [hu] at h1
 exact bodyPost_ret h1 hd hR
def RSc (s:Scr)(a0:Option Addr)(c0:Nat)(a1:Option Addr)(c1:Nat)(w W:World):Prop:=Below w.heap.size w W∧W.heap[w.heap.size]?=some (.cells #[.slice a0 s.consts.length c0,.slice a1 s.funcs.length c1] 27 (0,0))∧W.heap[w.heap.size+1]?=some (.cells zero7 34 (0,0))
theorem RSc.next {s:Scr}{a0 a1:Option Addr}{c0 c1:Nat}{w W W':World}(h:RSc s a0 c0 a1 c1 w W)(hb:Below W.heap.size W W'):RSc s a0 c0 a1 c1 w W':=⟨h.1.trans (hb.mono h.1.size),(hb.block _ (heap_lt h.2.1)).trans h.2.1,(hb.block _ (heap_lt h.2.2)).trans h.2.2⟩
theorem RSc.siz {s:Scr}{a0 a1:Option Addr}{c0 c1:Nat}{w W:World}(h:RSc s a0 c0 a1 c1 w W):w.heap.size+2≤W.heap.size:=heap_lt h.2.2
def See10 (V0 V1:Value)(w W:World):Prop:=W.cell? ⟨w.heap.size,0,none⟩=some V0∧W.cell? ⟨w.heap.size,1,none⟩=some V1∧May7 W (w.heap.size+1)∧∀ i,W.frozen? ⟨w.heap.size+1,i,none⟩=false
theorem RSc.see {s:Scr}{a0 a1:Option Addr}{c0 c1:Nat}{w W:World}(h:RSc s a0 c0 a1 c1 w W):See10 (.slice a0 s.consts.length c0) (.slice a1 s.funcs.length c1) w W :=
 ⟨Lib.cell_of_heap h.2.1 0,Lib.cell_of_heap h.2.1 1,⟨⟨_,Lib.cell_of_heap h.2.2 0⟩,⟨_,Lib.cell_of_heap h.2.2 1⟩,⟨_,Lib.cell_of_heap h.2.2 2⟩,⟨_,Lib.cell_of_heap h.2.2 3⟩,⟨_,Lib.cell_of_heap h.2.2 4⟩,⟨_,Lib.cell_of_heap h.2.2 5⟩,⟨_,Lib.cell_of_heap h.2.2 6⟩⟩,fun i=>Lib.frozen_of_heap h.2.2 i⟩
theorem RowN.hi {B:Nat}{W:World}{a:Option Addr}{ns:List Int}(h:RowN B W a ns):NsAt (hiC B W) a ns:=by
 rcases h.1 with h1 | ⟨b,off,e,h1⟩
 ·exact .inl h1
 ·exact .inr ⟨b,off,e,fun j hj=>hiC_at (show B≤b from h.2 ⟨b,off,none⟩ e) (h1 j hj)⟩
theorem hiC_low {B B':Nat}{W:World}(hB:B'≤B):∀ a x,hiC B W a=some x→hiC B' W a=some x:=fun _ _ h=>hiC_at (Nat.le_trans hB (hiC_le h).1) (hiC_le h).2
theorem hiC_set {B b i:Nat}{W:World}{v:Value}(hb:b<B):∀ a x,hiC B W a=some x→hiC B (W.setCell ⟨b,i,none⟩ v) a=some x:=fun a x h=>by
 obtain ⟨h1,h2⟩:=hiC_le h
 refine hiC_at h1 ?_
 rw [World.cell?_setCell_other _ _ _ _ (fun e=>by rw [← e] at h1;simp only at h1;omega)]
 exact h2
theorem hiC_set7 {B b:Nat}{W:World}{x0 x1 x2 x3 x4 x5 x6:Value}(hb:b<B):∀ a x,hiC B W a=some x→hiC B (set7 W b x0 x1 x2 x3 x4 x5 x6) a=some x:=fun a x h=>by
 unfold set7
 exact hiC_set hb _ _ (hiC_set hb _ _ (hiC_set hb _ _ (hiC_set hb _ _ (hiC_set hb _ _ (hiC_set hb _ _ (hiC_set hb _ _ h))))))
structure DRep (B:Nat)(s:Scr)(W:World)(v0 v1:Value)(sa da oa ra:Option Addr)(d:Nat→Nat)(o:List Nat):Prop where
 ord:ordS s.funcs.length (gF s)=some o
 scr:ScIs (hiC B W) s v0 v1
 st:NsAt (hiC B W) sa (allS s).2
 dp:NsAt (hiC B W) da (deepL s d)
 dpi:DeepIs s.funcs.length (gF s) d
 od:NsAt (hiC B W) oa (rowI o)
 rm:NsAt (hiC B W) ra (roomsS s (allS s).2 o)
theorem DRep.keep {B B':Nat}{s:Scr}{W W':World}{v0 v1:Value}{sa da oa ra:Option Addr}{d:Nat→Nat}{o:List Nat}(h:DRep B s W v0 v1 sa da oa ra d o)(hk:∀ a x,hiC B W a=some x→hiC B' W' a=some x):DRep B' s W' v0 v1 sa da oa ra d o:=⟨h.ord,h.scr.keep hk,h.st.keep hk,h.dp.keep hk,h.dpi,h.od.keep hk,h.rm.keep hk⟩
def RRepEnd (er:Int)(s:Scr)(w:World)(e:Ending)(w':World):Prop:=Below w.heap.size w w'∧((er≠0∧e=.returned (.tuple #[.agg zero7,.int .i64 er])) ∨
 (er=0∧∃ v0 v1 sa sc da dc oa oc ra rc d o,e=.returned (.tuple #[.agg #[v0,v1,.int .i64 (totS s).2,.slice sa s.funcs.length sc,.slice da s.funcs.length dc,.slice oa s.funcs.length oc,.slice ra s.funcs.length rc],.int .i64 0])∧s.right=true∧DRep w.heap.size s w' v0 v1 sa da oa ra d o))
def ROfEnd (s:Scr)(w:World)(e:Ending)(w':World):Prop:=RRepEnd (ofE s) s w e w'
theorem rof_bad {s:Scr}{w W:World}{rb:Nat}(h:ofE s≠0)(hrb:w.heap.size≤rb)(hb:Below w.heap.size w W):ROfEnd s w (.returned (.tuple #[.agg #[.slice none 0 0,.slice none 0 0,.int .i64 0,.slice none 0 0,.slice none 0 0,.slice none 0 0,.slice none 0 0],.int .i64 (ofE s)])) (set7 W rb (.slice none 0 0) (.slice none 0 0) (.int .i64 0) (.slice none 0 0) (.slice none 0 0) (.slice none 0 0) (.slice none 0 0)):=⟨below_set7 hb hrb,.inl ⟨h,rfl⟩⟩
structure RCalls (s:Scr)(a0:Option Addr)(c0:Nat)(a1:Option Addr)(c1:Nat)(w:World):Prop where
 right:Calls Tryz.prog 24 #[.agg #[.slice a0 s.consts.length c0,.slice a1 s.funcs.length c1]] ((w.alloc (.cells #[.slice a0 s.consts.length c0,.slice a1 s.funcs.length c1] 27)).alloc (.cells #[.slice none 0 0,.slice none 0 0,.int .i64 0,.slice none 0 0,.slice none 0 0,.slice none 0 0,.slice none 0 0] 34)) fun e W=>e=.returned (.bool s.right)∧See10 (.slice a0 s.consts.length c0) (.slice a1 s.funcs.length c1) w W∧Hid (RSc s a0 c0 a1 c1 w W)
 all:∀ W,RSc s a0 c0 a1 c1 w W→Calls Tryz.prog 25 #[.agg #[.slice a0 s.consts.length c0,.slice a1 s.funcs.length c1]] W fun e W'=>∃ a c,e=.returned (.tuple #[.slice a (allS s).2.length c,.int .i64 (allS s).1])∧See10 (.slice a0 s.consts.length c0) (.slice a1 s.funcs.length c1) w W'∧Hid (RSc s a0 c0 a1 c1 w W')∧Hid (RowN (w.heap.size+2) W' a (allS s).2∧Below W.heap.size W W')
 ord:∀ o W,s.right=true→ordS s.funcs.length (gF s)=some o→RSc s a0 c0 a1 c1 w W→Calls Tryz.prog 26 #[.agg #[.slice a0 s.consts.length c0,.slice a1 s.funcs.length c1]] W fun e W'=>∃ a c,e=.returned (.tuple #[.slice a s.funcs.length c,.int .i64 0])∧See10 (.slice a0 s.consts.length c0) (.slice a1 s.funcs.length c1) w W'∧Hid (RSc s a0 c0 a1 c1 w W')∧Hid (RowN (w.heap.size+2) W' a (rowI o)∧Below W.heap.size W W')
 ordN:∀ W,s.right=true→ordS s.funcs.length (gF s)=none→RSc s a0 c0 a1 c1 w W→Calls Tryz.prog 26 #[.agg #[.slice a0 s.consts.length c0,.slice a1 s.funcs.length c1]] W fun e W'=>e=.returned (.tuple #[.slice none 0 0,.int .i64 34])∧See10 (.slice a0 s.consts.length c0) (.slice a1 s.funcs.length c1) w W'∧Hid (RSc s a0 c0 a1 c1 w W')
 tot:∀ W,RSc s a0 c0 a1 c1 w W→Calls Tryz.prog 27 #[.agg #[.slice a0 s.consts.length c0,.slice a1 s.funcs.length c1]] W fun e W'=>e=.returned (.tuple #[.int .i64 (totS s).2,.int .i64 (totS s).1])∧See10 (.slice a0 s.consts.length c0) (.slice a1 s.funcs.length c1) w W'∧Hid (RSc s a0 c0 a1 c1 w W')∧Hid (Below W.heap.size W W')
 deep:∀ W,s.right=true→(∃ o,ordS s.funcs.length (gF s)=some o)→RSc s a0 c0 a1 c1 w W→Calls Tryz.prog 28 #[.agg #[.slice a0 s.consts.length c0,.slice a1 s.funcs.length c1]] W fun e W'=>∃ a c,e=.returned (.tuple #[.slice a s.funcs.length c,.int .i64 0])∧See10 (.slice a0 s.consts.length c0) (.slice a1 s.funcs.length c1) w W'∧Hid (RSc s a0 c0 a1 c1 w W')∧Hid ((∃ d,RowN (w.heap.size+2) W' a (deepL s d)∧DeepIs s.funcs.length (gF s) d)∧Below W.heap.size W W')
theorem rcalls10 (s:Scr)(a0:Option Addr)(c0:Nat)(a1:Option Addr)(c1:Nat)(w:World)(hs:ScIs w.cell? s (.slice a0 s.consts.length c0) (.slice a1 s.funcs.length c1))(hsf:s.fits)(hI64:∀ f ∈ s.funcs,∀ x ∈ f.code,-9223372036854775808≤x.2∧x.2≤9223372036854775807):RCalls s a0 c0 a1 c1 w:=by
 have HK:∀ W,RSc s a0 c0 a1 c1 w W→ScIs W.cell? s (.slice a0 s.consts.length c0) (.slice a1 s.funcs.length c1):=fun W h=>hs.keep (below_keep h.1)
 refine ⟨?_,fun W h=>?_,fun o W hr ho h=>?_,fun W hr ho h=>?_,fun W h=>?_,fun W hr ho h=>?_⟩
 ·obtain ⟨w0,hw0⟩:∃ w0,w0=w.alloc (.cells #[.slice a0 s.consts.length c0,.slice a1 s.funcs.length c1] 27):=⟨_,rfl⟩
  obtain ⟨w1,hw1⟩:∃ w1,w1=w0.alloc (.cells #[.slice none 0 0,.slice none 0 0,.int .i64 0,.slice none 0 0,.slice none 0 0,.slice none 0 0,.slice none 0 0] 34):=⟨_,rfl⟩
  have z0:w0.heap.size=w.heap.size+1:=by rw [hw0];simp
  have b0:Below w.heap.size w w0:=by rw [hw0];exact (Below.refl _ w).alloc (Nat.le_refl _) _
  have b1:Below w0.heap.size w0 w1:=by rw [hw1];exact (Below.refl _ w0).alloc (Nat.le_refl _) _
  have e0:w0.heap[w.heap.size]?=some (.cells #[.slice a0 s.consts.length c0,.slice a1 s.funcs.length c1] 27 (0,0)):=by rw [hw0];exact heap_alloc_new w _
  have e1:w1.heap[w.heap.size+1]?=some (.cells zero7 34 (0,0)):=by rw [hw1,← z0];exact heap_alloc_new w0 _
  have R1:RSc s a0 c0 a1 c1 w w1:=⟨b0.trans (b1.mono b0.size),(b1.block _ (heap_lt e0)).trans e0,e1⟩
  rw [← hw0,← hw1]
  refine (rright4_any s _ _ w1 (HK _ R1) hsf hI64).mono fun e W ⟨h1,h2⟩=>⟨h1,(R1.next h2).see,hid9 (R1.next h2)⟩
 ·refine (rall7_new s _ _ W (HK _ h) hsf hI64).mono fun e W' ⟨⟨a,c,h1,h2,h3⟩,h4⟩=>⟨a,c,h1,(h.next h3).see,hid9 (h.next h3),hid9 ⟨⟨h2,fun g hg=>?_⟩,h3⟩⟩
  subst hg
  exact Nat.le_trans h.siz (h4 g _ _ _ h1)
 ·refine (rorder_new s _ _ W (HK _ h) hsf hI64).mono fun e W' ⟨⟨h1,h2⟩,h4⟩=>?_
  rw [if_pos hr,ho] at h2
  obtain ⟨a,c,h2,h3⟩:=h2
  have hl:=(ord_told ho).1
  refine ⟨a,c,by rw [h2,hl],(h.next h1).see,hid9 (h.next h1),hid9 ⟨⟨h3,fun g hg=>?_⟩,h1⟩⟩
  subst hg
  exact Nat.le_trans h.siz (h4 g _ _ _ h2)
 ·refine (rorder_new s _ _ W (HK _ h) hsf hI64).mono fun e W' ⟨⟨h1,h2⟩,_⟩=>?_
  rw [if_pos hr,ho] at h2
  exact ⟨h2,(h.next h1).see,hid9 (h.next h1)⟩
 ·exact (rtotal9_any s _ _ W (HK _ h) hsf hI64).mono fun e W' ⟨h1,h2⟩=>⟨h1,(h.next h2).see,hid9 (h.next h2),hid9 h2⟩
 ·refine (rdeep_new s _ _ W (HK _ h) hsf hI64).mono fun e W' ⟨⟨h1,h2⟩,h4⟩=>?_
  obtain ⟨o,ho⟩:=ho
  rw [if_pos hr,if_neg (by rw [ho];simp)] at h2
  obtain ⟨a,c,d,h2,h3,h5,_⟩:=h2
  refine ⟨a,c,h2,(h.next h1).see,hid9 (h.next h1),hid9 ⟨⟨d,⟨h3,fun g hg=>?_⟩,h5⟩,h1⟩⟩
  subst hg
  exact Nat.le_trans h.siz (h4 g _ _ _ h2)
set_option maxRecDepth 100000 in
set_option maxHeartbeats 4000000 in
theorem rof_err (s:Scr)(V0 V1:Value)(w:World)(hs:ScIs w.cell? s V0 V1)(hsf:s.fits)(hI64:∀ f ∈ s.funcs,∀ x ∈ f.code,-9223372036854775808≤x.2∧x.2≤9223372036854775807)(hE:ofE s≠0):Calls Tryz.prog 15 #[.agg #[V0,V1]] w (ROfEnd s w):=by
 obtain ⟨⟨a0,c0,rfl,n0⟩,⟨a1,c1,rfl,n1⟩⟩:=hs
 have HC:=hid9 (rcalls10 s a0 c0 a1 c1 w ⟨⟨a0,c0,rfl,n0⟩,⟨a1,c1,rfl,n1⟩⟩ hsf hI64)
 have HB:Hid (∀ W er,RSc s a0 c0 a1 c1 w W→ofE s=er→ROfEnd s w (.returned (.tuple #[.agg #[.slice none 0 0,.slice none 0 0,.int .i64 0,.slice none 0 0,.slice none 0 0,.slice none 0 0,.slice none 0 0],.int .i64 er])) (set7 W (w.heap.size+1) (.slice none 0 0) (.slice none 0 0) (.int .i64 0) (.slice none 0 0) (.slice none 0 0) (.slice none 0 0) (.slice none 0 0))∧W.heap[w.heap.size+1]?=some (.cells zero7 34 (0,0))):=hid9 fun W er h he=>by
  subst he
  exact ⟨rof_bad hE (by omega) h.1,h.2.2⟩
 clear n0 n1 hsf hI64
 by_cases hr:s.right=true
 ·by_cases ha:(allS s).1=0
  ·have eo:=hid9 (by rw [ofE,if_pos hr,if_pos ha]:ofE s=if (ordS s.funcs.length (gF s)).isNone=true then 34 else (totS s).1)
   cases ho:ordS s.funcs.length (gF s) with
   | none =>
    have HE:=hid9 (by rw [eo.out,ho];rfl:ofE s=34)
    have H1:=hid9 (And.intro HC.out.right HC.out.all)
    have H2:=hid9 (fun W=>HC.out.ordN W hr ho)
    clear HC eo
    rw [hr,ha] at H1
    generalize (allS s).2.length=al at *
    clear ho ha hr hE
    go_enter Tryz.func15,Tryz.ntmps15
    go_wp2_with (first
     | (go_at_call 24;refine H1.out.1.mono ?_;rintro e W1 ⟨rfl,⟨x0,x1,_⟩,K1⟩)
     | (go_at_call 25;refine (H1.out.2 _ K1.out).mono ?_;clear H1;rintro e W2 ⟨sa,sc,rfl,⟨x0,x1,_⟩,K2,_⟩)
     | (go_at_call 26;refine (H2.out _ K2.out).mono ?_;clear H2;rintro e W3 ⟨rfl,⟨_,_,⟨⟨u0,m0⟩,⟨u1,m1⟩,⟨u2,m2⟩,⟨u3,m3⟩,⟨u4,m4⟩,⟨u5,m5⟩,⟨u6,m6⟩⟩,fz⟩,K3⟩;have f0:=fz 0;have f1:=fz 1;have f2:=fz 2;have f3:=fz 3;have f4:=fz 4;have f5:=fz 5;have f6:=fz 6;clear fz)
     | fail)
    obtain ⟨q1,q2⟩:=HB.out _ _ K3.out HE.out
    exact ret_repd rfl rfl rfl rfl q2 q1
   | some o =>
    have HE:=hid9 (by rw [eo.out,ho];rfl:ofE s=(totS s).1)
    have ht:((totS s).1 != 0)=true:=by rw [← HE.out];simpa using hE
    have H1:=hid9 (And.intro HC.out.right HC.out.all)
    have H2:=hid9 (fun W=>HC.out.ord o W hr ho)
    have H3:=hid9 HC.out.tot
    clear HC eo
    rw [hr,ha] at H1
    generalize (allS s).2.length=al at *
    generalize (totS s).1=te at *
    generalize (totS s).2=tg at *
    clear ho ha hr hE
    go_enter Tryz.func15,Tryz.ntmps15
    go_wp2_with (first
     | (go_at_call 24;refine H1.out.1.mono ?_;rintro e W1 ⟨rfl,⟨x0,x1,_⟩,K1⟩)
     | (go_at_call 25;refine (H1.out.2 _ K1.out).mono ?_;clear H1;rintro e W2 ⟨sa,sc,rfl,⟨x0,x1,_⟩,K2,_⟩)
     | (go_at_call 26;refine (H2.out _ K2.out).mono ?_;clear H2;rintro e W3 ⟨oa,oc,rfl,⟨x0,x1,_⟩,K3,_⟩)
     | (go_at_call 27;refine (H3.out _ K3.out).mono ?_;clear H3;rintro e W4 ⟨rfl,⟨_,_,⟨⟨u0,m0⟩,⟨u1,m1⟩,⟨u2,m2⟩,⟨u3,m3⟩,⟨u4,m4⟩,⟨u5,m5⟩,⟨u6,m6⟩⟩,fz⟩,K4,_⟩;have f0:=fz 0;have f1:=fz 1;have f2:=fz 2;have f3:=fz 3;have f4:=fz 4;have f5:=fz 5;have f6:=fz 6;clear fz)
     | fail)
    obtain ⟨q1,q2⟩:=HB.out _ _ K4.out HE.out
    exact ret_repd rfl rfl rfl rfl q2 q1
  ·have HE:=hid9 (by rw [ofE,if_pos hr,if_neg ha]:ofE s=(allS s).1)
   have ht:((allS s).1 != 0)=true:=by simpa using ha
   have H1:=hid9 (And.intro HC.out.right HC.out.all)
   clear HC
   rw [hr] at H1
   generalize (allS s).2.length=al at *
   generalize (allS s).1=te at *
   clear ha hr hE
   go_enter Tryz.func15,Tryz.ntmps15
   go_wp2_with (first
    | (go_at_call 24;refine H1.out.1.mono ?_;rintro e W1 ⟨rfl,⟨x0,x1,_⟩,K1⟩)
    | (go_at_call 25;refine (H1.out.2 _ K1.out).mono ?_;clear H1;rintro e W2 ⟨sa,sc,rfl,⟨_,_,⟨⟨u0,m0⟩,⟨u1,m1⟩,⟨u2,m2⟩,⟨u3,m3⟩,⟨u4,m4⟩,⟨u5,m5⟩,⟨u6,m6⟩⟩,fz⟩,K2,_⟩;have f0:=fz 0;have f1:=fz 1;have f2:=fz 2;have f3:=fz 3;have f4:=fz 4;have f5:=fz 5;have f6:=fz 6;clear fz)
    | fail)
   obtain ⟨q1,q2⟩:=HB.out _ _ K2.out HE.out
   exact ret_repd rfl rfl rfl rfl q2 q1
 ·have HE:=hid9 (by rw [ofE,if_neg hr]:ofE s=30)
  have hr':s.right=false:=by simpa using hr
  have H1:=hid9 HC.out.right
  clear HC hr
  rw [hr'] at H1
  clear hr' hE
  go_enter Tryz.func15,Tryz.ntmps15
  go_wp2_with (first
   | (go_at_call 24;refine H1.out.mono ?_;clear H1;rintro e W1 ⟨rfl,⟨_,_,⟨⟨u0,m0⟩,⟨u1,m1⟩,⟨u2,m2⟩,⟨u3,m3⟩,⟨u4,m4⟩,⟨u5,m5⟩,⟨u6,m6⟩⟩,fz⟩,K1⟩;have f0:=fz 0;have f1:=fz 1;have f2:=fz 2;have f3:=fz 3;have f4:=fz 4;have f5:=fz 5;have f6:=fz 6;clear fz)
   | fail)
  obtain ⟨q1,q2⟩:=HB.out _ _ K1.out HE.out
  exact ret_repd rfl rfl rfl rfl q2 q1
def farC (B xb rb:Nat)(W:World):Addr→Option Value:=fun a=>if B≤a.block∧a.block≠xb∧a.block≠rb then W.cell? a else none
theorem farC_le {B xb rb:Nat}{W:World}{a:Addr}{x:Value}(h:farC B xb rb W a=some x):(B≤a.block∧a.block≠xb∧a.block≠rb)∧W.cell? a=some x:=by
 unfold farC at h
 split at h
 ·rename_i hc;exact ⟨hc,h⟩
 ·cases h
theorem farC_at {B xb rb:Nat}{W:World}{a:Addr}{x:Value}(hc:B≤a.block∧a.block≠xb∧a.block≠rb)(h:W.cell? a=some x):farC B xb rb W a=some x:=by unfold farC;rw [if_pos hc];exact h
theorem far_of {B5 B xb rb:Nat}{W V:World}(hb:Below W.heap.size W V)(hB:B5≤B)(hx:xb<B∨W.heap.size≤xb)(hr:rb<B∨W.heap.size≤rb):∀ a x,hiC B W a=some x→farC B5 xb rb V a=some x:=fun a x h=>by
 obtain ⟨h1,h2⟩:=hiC_le h
 have h3:=World.block_lt_of_cell? W _ h2
 exact farC_at ⟨by omega,by omega,by omega⟩ (below_keep hb _ _ h2)
structure Rdy10 (s:Scr)(X:Array Value)(xb rb:Nat)(v0 v1:Value)(W5 W:World):Prop where
 bel:Below W5.heap.size W5 W
 xl:W5.heap.size≤xb
 rl:W5.heap.size≤rb
 ne:xb≠rb
 box:W.heap[xb]?=some (.cells X 34 (0,0))
 fil:Fill W rb 3 s.funcs.length (fun _=>.int .i64 0)
 scr:ScIs (farC W5.heap.size xb rb W) s v0 v1
theorem rdyA {s:Scr}{X:Array Value}{rb:Nat}{v0 v1:Value}{W5 V:World}(hb:Below W5.heap.size W5 V)(hr:W5.heap.size≤rb)(hF:Fill V rb 3 s.funcs.length (fun _=>.int .i64 0))(hS:ScIs (farC W5.heap.size V.heap.size rb V) s v0 v1):Rdy10 s X V.heap.size rb v0 v1 W5 (V.alloc (.cells X 34)):=by
 have bA:Below V.heap.size V (V.alloc (.cells X 34)):=(Below.refl _ V).alloc (Nat.le_refl _) _
 refine ⟨hb.trans (bA.mono hb.size),hb.size,hr,Nat.ne_of_gt hF.lt,heap_alloc_new V _,hF.keep (bA.block _ hF.lt),hS.keep fun a x h=>?_⟩
 exact farC_at (farC_le h).1 (below_keep bA _ _ (farC_le h).2)
theorem set7_other {W:World}{b g:Nat}{x0 x1 x2 x3 x4 x5 x6:Value}(h:g≠b):(set7 W b x0 x1 x2 x3 x4 x5 x6).heap[g]?=W.heap[g]?:=by
 unfold set7
 rw [Below.heap_setCell _ _ _ _ h,Below.heap_setCell _ _ _ _ h,Below.heap_setCell _ _ _ _ h,Below.heap_setCell _ _ _ _ h,Below.heap_setCell _ _ _ _ h,Below.heap_setCell _ _ _ _ h,Below.heap_setCell _ _ _ _ h]
theorem cell_of_blk {W V:World}{a:Addr}(h:V.heap[a.block]?=W.heap[a.block]?):V.cell? a=W.cell? a:=by simp only [World.cell?,h]
theorem rdyB {s:Scr}{x0 x1 x2 x3 x4 x5 x6:Value}{xb rb:Nat}{v0 v1:Value}{W5 V:World}(hb:Below W5.heap.size W5 V)(hr:W5.heap.size≤rb)(hxl:W5.heap.size≤xb)(hx:V.heap[xb]?=some (.cells zero7 34 (0,0)))(hne:xb≠rb)(hF:Fill V rb 3 s.funcs.length (fun _=>.int .i64 0))(hS:ScIs (farC W5.heap.size xb rb V) s v0 v1):Rdy10 s #[x0,x1,x2,x3,x4,x5,x6] xb rb v0 v1 W5 (set7 V xb x0 x1 x2 x3 x4 x5 x6):=by
 refine ⟨below_set7 hb hxl,hxl,hr,hne,set7_blkd hx _ _ _ _ _ _ _,hF.keep (set7_other hne.symm),hS.keep fun a x h=>?_⟩
 obtain ⟨h1,h2⟩:=farC_le h
 exact farC_at h1 (by rw [cell_of_blk (set7_other h1.2.1)];exact h2)
def Cel7d (W:World)(b:Nat)(x0 x1 x2 x3 x4 x5 x6:Value):Prop:=W.cell? ⟨b,0,none⟩=some x0∧W.cell? ⟨b,1,none⟩=some x1∧W.cell? ⟨b,2,none⟩=some x2∧W.cell? ⟨b,3,none⟩=some x3∧W.cell? ⟨b,4,none⟩=some x4∧W.cell? ⟨b,5,none⟩=some x5∧W.cell? ⟨b,6,none⟩=some x6
structure Fx10 (s:Scr)(o:List Nat)(oa ga sa a1:Option Addr)(c1 xb rb B:Nat)(w W:World):Prop where
 oat:∀ k (h:k<o.length),∃ ob oo,oa=some ⟨ob,oo,none⟩∧W.cell? ⟨ob,oo+k,none⟩=some (.int .i64 (o[k]:Nat))
 gat:∀ f<s.funcs.length,∃ gb go aj cj,ga=some ⟨gb,go,none⟩∧W.cell? ⟨gb,go+f,none⟩=some (.slice aj (gF s f).length cj)∧NsAt (hiC B W) aj (rowI (gF s f))
 sat:∀ f<s.funcs.length,∃ sb so,sa=some ⟨sb,so,none⟩∧W.cell? ⟨sb,so+f,none⟩=some (.int .i64 ((allS s).2.getD f 0))
 fat:∀ f<s.funcs.length,∃ fb fo p0 m0 q0 p2 m2 q2,a1=some ⟨fb,fo,none⟩∧W.cell? ⟨fb,fo+f*4,none⟩=some (.slice p0 m0 q0)∧W.cell? ⟨fb,fo+f*4+2,none⟩=some (.slice p2 m2 q2)∧m0+m2=fnN s f
 box:W.cell? ⟨xb,6,none⟩=some (.slice (some ⟨rb,0,none⟩) s.funcs.length s.funcs.length)
 sbx:W.cell? ⟨w.heap.size,1,none⟩=some (.slice a1 s.funcs.length c1)
theorem fx10_of {s:Scr}{o:List Nat}{oa ga sa a1:Option Addr}{c1 xb rb B:Nat}{w W:World}(ho:NsAt W.cell? oa (rowI o))(hg:RsAt (hiC B W) ga (rowsI (graphS s)))(hs:NsAt W.cell? sa (allS s).2)(hl:(allS s).2.length=s.funcs.length)(hf:FsAt W.cell? a1 s.funcs)(hb:W.cell? ⟨xb,6,none⟩=some (.slice (some ⟨rb,0,none⟩) s.funcs.length s.funcs.length))(hx:W.cell? ⟨w.heap.size,1,none⟩=some (.slice a1 s.funcs.length c1)):Fx10 s o oa ga sa a1 c1 xb rb B w W:=by
 refine ⟨fun k h=>?_,fun f h=>?_,fun f h=>?_,fun f h=>?_,hb,hx⟩
 ·rcases ho with e | ⟨b,off,e,hc⟩
  ·have:(rowI o).length=0:=by rw [e];rfl
   simp [rowI] at this
   rw [this] at h;cases h
  ·refine ⟨b,off,e,?_⟩
   have:=hc k (by simp [rowI];exact h)
   rw [this]
   simp [rowI]
 ·have i4:=(graph_inn s).2.2.2
  rcases hg with e | ⟨b,off,e,hc⟩
  ·rw [rowsI,List.map_eq_nil_iff] at e
   rw [← i4,e] at h
   simp at h
  ·have hfl:f<(rowsI (graphS s)).length:=by rw [rowsI,List.length_map,i4];exact h
   obtain ⟨aj,cj,h1,h2⟩:=hc f hfl
   have e2:(rowsI (graphS s))[f]=rowI (gF s f):=by
    have:f<(graphS s).length:=by rw [i4];exact h
    simp [rowsI,gF,gOf,List.getD,this]
   rw [e2] at h1 h2
   exact ⟨b,off,aj,cj,e,by rw [(hiC_le h1).2];simp [rowI],h2⟩
 ·rcases hs with e | ⟨b,off,e,hc⟩
  ·rw [← hl,e] at h;cases h
  ·have hfl:f<(allS s).2.length:=by rw [hl];exact h
   exact ⟨b,off,e,by rw [hc f hfl];simp [List.getD,hfl]⟩
 ·rcases hf with e | ⟨b,off,e,hc⟩
  ·rw [e] at h;cases h
  ·obtain ⟨v0,v1,v2,v3,q0,_,q2,_,⟨⟨p0,d0,rfl,_⟩,_,⟨p2,d2,rfl,_⟩,_⟩⟩:=hc f h
   exact ⟨b,off,p0,_,d0,p2,_,d2,e,q0,q2,by unfold fnN;rw [List.getElem?_eq_getElem h]⟩
set_option maxRecDepth 100000 in
set_option maxHeartbeats 4000000 in
theorem rof_good (s:Scr)(V0 V1:Value)(w:World)(hs:ScIs w.cell? s V0 V1)(hsf:s.fits)(hI64:∀ f ∈ s.funcs,∀ x ∈ f.code,-9223372036854775808≤x.2∧x.2≤9223372036854775807)(o:List Nat)(hr:s.right=true)(ha:(allS s).1=0)(ho:ordS s.funcs.length (gF s)=some o)(ht:(totS s).1=0):Calls Tryz.prog 15 #[.agg #[V0,V1]] w (ROfEnd s w):=by
 obtain ⟨⟨a0,c0,rfl,n0⟩,⟨a1,c1,rfl,n1⟩⟩:=hs
 have hs:ScIs w.cell? s (.slice a0 s.consts.length c0) (.slice a1 s.funcs.length c1):=⟨⟨a0,c0,rfl,n0⟩,⟨a1,c1,rfl,n1⟩⟩
 have HC:=hid9 (rcalls10 s a0 c0 a1 c1 w hs hsf hI64)
 have H1:=hid9 (And.intro HC.out.right HC.out.all)
 have H2:=hid9 (fun W=>HC.out.ord o W hr ho)
 have H3:=hid9 HC.out.tot
 have H4:=hid9 (fun W=>HC.out.deep W hr ⟨o,ho⟩)
 obtain ⟨hal,hab⟩:=all_bounds hr ha
 rw [hr,ha,hal] at H1
 rw [ht] at H3
 clear HC
 have hsw:=hid9 hs
 have hfw:=hid9 n1
 obtain ⟨r1,r2,_⟩:=right_calls hr
 obtain ⟨mk,hmk⟩:=Classical.axiomOfChoice fun W:World=>made8 W 28 3 (.int .i64 0) 8 s.funcs.length Tryz.underlying28 (by kernel_rfl) rfl (by omega) (by omega)
 have HMk:=hid9 fun W=>(hmk W).2
 have hmk1:=fun W=>(hmk W).1
 have HCl:Hid (∀ W,Below w.heap.size w W→Calls Tryz.prog 12 #[.agg #[.slice a0 s.consts.length c0,.slice a1 s.funcs.length c1]] W fun e W'=>∃ x0 d0 x1 d1,e=.returned (.agg #[.slice x0 s.consts.length d0,.slice x1 s.funcs.length d1])∧Below W.heap.size W W'∧Hid (ScIs (hiC W.heap.size W') s (.slice x0 s.consts.length d0) (.slice x1 s.funcs.length d1))):=hid9 fun W hb=>(rclone_all s _ _ W (hs.keep (below_keep hb)) hsf).mono fun e W' h=>by
  obtain ⟨x0,d0,x1,d1,h1,h2,h3⟩:=clone_hi h
  exact ⟨x0,d0,x1,d1,h1,h2,hid9 h3⟩
 clear hmk
 obtain ⟨tg,htg⟩:∃ tg,tg=(totS s).2:=⟨_,rfl⟩
 obtain ⟨cl,hcl⟩:∃ cl,cl=s.consts.length:=⟨_,rfl⟩
 rw [← htg,← hcl] at H3
 rw [← hcl] at H1 H2 H4 HCl hsw ⊢
 have HTg:=hid9 htg
 have HcL:=hid9 hcl
 clear htg hcl
 go_enter Tryz.func15,Tryz.ntmps15
 go_wp2_with (first
  | (go_at_call 24;refine H1.out.1.mono ?_;rintro e W1 ⟨rfl,⟨x0,x1,_⟩,K1⟩)
  | (go_at_call 25;refine (H1.out.2 _ K1.out).mono ?_;clear H1;rintro e W2 ⟨sa,sc,rfl,⟨x0,x1,_⟩,K2,R2⟩)
  | (go_at_call 26;refine (H2.out _ K2.out).mono ?_;clear H2;rintro e W3 ⟨oa,oc,rfl,⟨x0,x1,_⟩,K3,R3⟩)
  | (go_at_call 27;refine (H3.out _ K3.out).mono ?_;clear H3;rintro e W4 ⟨rfl,⟨x0,x1,_⟩,K4,R4⟩)
  | (go_at_call 28;refine (H4.out _ K4.out).mono ?_;clear H4;rintro e W5 ⟨da,dc,rfl,⟨x0,x1,_⟩,K5,R5⟩)
  | fail)
 have hbA:Below W5.heap.size W5 W5.drew:=(Below.refl _ _).drew
 have hbM:∀ W,Below W5.heap.size W5 W→Below W5.heap.size W5 (mk W):=fun W h=>h.trans ((HMk.out W).2.mono h.size)
 have hSk:∀ W,Below W5.heap.size W5 W→W.cell? ⟨w.heap.size,0,none⟩=some (.slice a0 cl c0)∧W.cell? ⟨w.heap.size,1,none⟩=some (.slice a1 s.funcs.length c1):=fun W h=>⟨below_keep h _ _ x0,below_keep h _ _ x1⟩
 have hWk:∀ W,Below W5.heap.size W5 W→Below w.heap.size w W:=fun W h=>K5.out.1.trans (h.mono K5.out.1.size)
 have hmc:∀ (W:World) b i,b<W.heap.size→(mk W).cell? ⟨b,i,none⟩=W.cell? ⟨b,i,none⟩:=fun W b i h=>(HMk.out W).2.cell (p:=⟨b,i,none⟩) h
 have hmf:∀ (W:World) b i,b<W.heap.size→(mk W).frozen? ⟨b,i,none⟩=W.frozen? ⟨b,i,none⟩:=fun W b i h=>by simp [World.frozen?,(HMk.out W).2.block b h]
 have hml:∀ (W:World) b,b<W.heap.size→b<(mk W).heap.size:=fun W b h=>Nat.lt_of_lt_of_le h (HMk.out W).2.size
 have hms:∀ W:World,W.heap.size<(mk W).heap.size:=fun W=>(HMk.out W).1.lt
 have hAl:∀ (W:World) x,Below W5.heap.size W5 W→Below W5.heap.size W5 (W.alloc x):=fun W x h=>h.alloc h.size x
 have HC5:Hid (∀ W,Below W5.heap.size W5 W→Calls Tryz.prog 12 #[.agg #[.slice a0 cl c0,.slice a1 s.funcs.length c1]] W fun e W'=>∃ x0 d0 x1 d1,e=.returned (.agg #[.slice x0 cl d0,.slice x1 s.funcs.length d1])∧Below W5.heap.size W5 W'∧(∀ b,b<W.heap.size→b<W'.heap.size)∧(∀ b i,b<W.heap.size→W'.cell? ⟨b,i,none⟩=W.cell? ⟨b,i,none⟩)∧(∀ b i,b<W.heap.size→W'.frozen? ⟨b,i,none⟩=W.frozen? ⟨b,i,none⟩)∧Hid (Below W.heap.size W W'∧ScIs (hiC W.heap.size W') s (.slice x0 cl d0) (.slice x1 s.funcs.length d1))):=hid9 fun W h=>(HCl.out W (hWk W h)).mono fun e W' ⟨y0,d0,y1,d1,h1,h2,h3⟩=>⟨y0,d0,y1,d1,h1,h.trans (h2.mono h.size),fun b hb=>Nat.lt_of_lt_of_le hb h2.size,fun b i hb=>h2.cell (p:=⟨b,i,none⟩) hb,fun b i hb=>by simp [World.frozen?,h2.block b hb],hid9 ⟨h2,h3.out⟩⟩
 clear HCl
 have hSt:∀ (W:World) b i v,Below W5.heap.size W5 W→W5.heap.size≤b→Below W5.heap.size W5 (W.setCell ⟨b,i,none⟩ v):=fun W b i v h hb=>h.setCell (p:=⟨b,i,none⟩) hb v
 have hZ0:W5.heap.size≤W5.heap.size:=Nat.le_refl _
 have hZ1:∀ W,Below W5.heap.size W5 W→W5.heap.size≤W.heap.size:=fun W h=>h.size
 have hb0:Below W5.heap.size W5 W5:=Below.refl _ _
 have hDr:∀ W,Below W5.heap.size W5 W→Below W5.heap.size W5 W.drew:=fun W h=>h.drew
 go_cut [12] (fun p wx=>∃ xb rb y0 d0 y1 d1,p=.pointer (some ⟨xb,0,none⟩)∧Rdy10 s #[.slice y0 cl d0,.slice y1 s.funcs.length d1,.int .i64 tg,.slice sa s.funcs.length sc,.slice da s.funcs.length dc,.slice oa s.funcs.length oc,.slice (some ⟨rb,0,none⟩) s.funcs.length s.funcs.length] xb rb (.slice y0 cl d0) (.slice y1 s.funcs.length d1) W5 wx)
 case first =>
  go_region_held3 (fun W=>W.cell? ⟨w.heap.size,0,none⟩=some (.slice a0 cl c0)∧W.cell? ⟨w.heap.size,1,none⟩=some (.slice a1 s.funcs.length c1)) (first | with_reducible exact ⟨x0,x1⟩ | (with_reducible apply hSk;repeat' (first | with_reducible exact hb0 | with_reducible exact hb6 | with_reducible apply hDr | with_reducible apply hbM | with_reducible apply hAl | with_reducible apply hSt | with_reducible exact hZ0 | with_reducible apply hZ1))) (first
   | (go_at_call 12;refine Calls.mono (HC5.out _ ?_) ?_;(repeat' (first | with_reducible exact hb0 | with_reducible apply hDr | with_reducible apply hbM | with_reducible apply hAl));rintro e W6 ⟨y0,d0,y1,d1,rfl,hb6,hl6,hc6,hf6,HS6⟩))
  ·go_wp2_with fail
   go_meet
   have m6:=HMk.out W6
   exact ⟨_,_,y0,d0,y1,d1,rfl,rdyA (hbM _ hb6) hb6.size m6.1 (HS6.out.2.keep (far_of m6.2 (Nat.le_refl _) (.inr m6.2.size) (.inr (Nat.le_refl _))))⟩
  ·go_wp2_with fail
   go_meet
   obtain ⟨U,hU⟩:∃ U,U=W6.alloc (.cells zero7 34):=⟨_,rfl⟩
   have bU:Below W6.heap.size W6 U:=by rw [hU];exact (Below.refl _ _).alloc (Nat.le_refl _) _
   have zU:U.heap.size=W6.heap.size+1:=by rw [hU];simp
   have eU:U.heap[W6.heap.size]?=some (.cells zero7 34 (0,0)):=by rw [hU];exact heap_alloc_new W6 _
   have mU:=HMk.out U
   rw [zU] at mU
   have b6:=hb6.size
   have key:=rdyB (x0:=.slice y0 cl d0) (x1:=.slice y1 s.funcs.length d1) (x2:=.int .i64 tg) (x3:=.slice sa s.funcs.length sc) (x4:=.slice da s.funcs.length dc) (x5:=.slice oa s.funcs.length oc) (x6:=.slice (some ⟨W6.heap.size+1,0,none⟩) s.funcs.length s.funcs.length) (hb6.trans ((bU.trans (mU.2.mono (by omega))).mono b6)) (by omega) b6 ((mU.2.block _ (by omega)).trans eU) (by omega) mU.1 (HS6.out.2.keep (far_of (bU.trans (mU.2.mono (by omega))) (Nat.le_refl _) (.inr (Nat.le_refl _)) (.inr (by omega))))
   rw [hU] at key
   exact ⟨_,_,y0,d0,y1,d1,rfl,key⟩
  ·go_wp2_with fail
   go_meet
   have m5:=HMk.out W5.drew
   exact ⟨_,_,y0,d0,y1,d1,rfl,rdyA hb6 (Nat.le_refl _) (m5.1.keep (HS6.out.1.block _ m5.1.lt)) (HS6.out.2.keep (far_of (Below.refl _ _) (hbM _ hbA).size (.inr (Nat.le_refl _)) (.inl m5.1.lt)))⟩
  ·go_wp2_with fail
   go_meet
   have m5:=HMk.out W5.drew
   obtain ⟨M,hM⟩:∃ M,M=mk W5.drew:=⟨_,rfl⟩
   rw [← hM] at m5 HS6 ⊢
   obtain ⟨Y,hY⟩:∃ Y,Y=M.alloc (.cells zero7 34):=⟨_,rfl⟩
   have bY:Below M.heap.size M Y:=by rw [hY];exact (Below.refl _ _).alloc (Nat.le_refl _) _
   have eY:Y.heap[M.heap.size]?=some (.cells zero7 34 (0,0)):=by rw [hY];exact heap_alloc_new M _
   have H6:Below Y.heap.size Y W6∧ScIs (hiC Y.heap.size W6) s (.slice y0 cl d0) (.slice y1 s.funcs.length d1):=by rw [hY];exact HS6.out
   have g1:W5.heap.size<M.heap.size:=m5.1.lt
   have g2:=heap_lt eY
   have key:=rdyB (x0:=.slice y0 cl d0) (x1:=.slice y1 s.funcs.length d1) (x2:=.int .i64 tg) (x3:=.slice sa s.funcs.length sc) (x4:=.slice da s.funcs.length dc) (x5:=.slice oa s.funcs.length oc) (x6:=.slice (some ⟨W5.heap.size,0,none⟩) s.funcs.length s.funcs.length) hb6 (Nat.le_refl _) (Nat.le_of_lt g1) ((H6.1.block _ g2).trans eY) (Nat.ne_of_gt g1) (m5.1.keep ((H6.1.block _ (Nat.lt_trans g1 g2)).trans (bY.block _ g1))) (H6.2.keep (far_of (Below.refl _ _) (by omega) (.inl g2) (.inl (Nat.lt_trans g1 g2))))
   exact ⟨_,_,y0,d0,y1,d1,rfl,key⟩
  ·go_wp2_with fail
   go_meet
   obtain ⟨Y,hY⟩:∃ Y,Y=(W5.alloc (.cells zero7 34)).drew:=⟨_,rfl⟩
   have bY:Below W5.heap.size W5 Y:=by rw [hY];exact ((Below.refl _ _).alloc (Nat.le_refl _) _).drew
   have eY:Y.heap[W5.heap.size]?=some (.cells zero7 34 (0,0)):=by rw [hY];exact heap_alloc_new W5 _
   have H6:Below Y.heap.size Y W6∧ScIs (hiC Y.heap.size W6) s (.slice y0 cl d0) (.slice y1 s.funcs.length d1):=by rw [hY];exact HS6.out
   have m6:=HMk.out W6
   have g2:=heap_lt eY
   have g3:=H6.1.size
   have key:=rdyB (x0:=.slice y0 cl d0) (x1:=.slice y1 s.funcs.length d1) (x2:=.int .i64 tg) (x3:=.slice sa s.funcs.length sc) (x4:=.slice da s.funcs.length dc) (x5:=.slice oa s.funcs.length oc) (x6:=.slice (some ⟨W6.heap.size,0,none⟩) s.funcs.length s.funcs.length) (hbM _ hb6) hb6.size (Nat.le_refl _) ((m6.2.block _ (Nat.lt_of_lt_of_le g2 g3)).trans ((H6.1.block _ g2).trans eY)) (by omega) m6.1 (H6.2.keep (far_of m6.2 (by omega) (.inl g2) (.inr (Nat.le_refl _))))
   exact ⟨_,_,y0,d0,y1,d1,rfl,key⟩
  ·go_wp2_with fail
   go_meet
   obtain ⟨Y,hY⟩:∃ Y,Y=(W5.alloc (.cells zero7 34)).drew:=⟨_,rfl⟩
   have bY:Below W5.heap.size W5 Y:=by rw [hY];exact ((Below.refl _ _).alloc (Nat.le_refl _) _).drew
   have eY:Y.heap[W5.heap.size]?=some (.cells zero7 34 (0,0)):=by rw [hY];exact heap_alloc_new W5 _
   have zY:Y.heap.size=W5.heap.size+1:=by rw [hY];simp
   have mY:=HMk.out Y
   rw [zY] at mY
   have H6:Below (mk Y).heap.size (mk Y) W6∧ScIs (hiC (mk Y).heap.size W6) s (.slice y0 cl d0) (.slice y1 s.funcs.length d1):=by rw [hY];exact HS6.out
   have g3:W5.heap.size+1<(mk Y).heap.size:=mY.1.lt
   have g4:=(mY.2.block _ (by omega)).trans eY
   have key:=rdyB (x0:=.slice y0 cl d0) (x1:=.slice y1 s.funcs.length d1) (x2:=.int .i64 tg) (x3:=.slice sa s.funcs.length sc) (x4:=.slice da s.funcs.length dc) (x5:=.slice oa s.funcs.length oc) (x6:=.slice (some ⟨W5.heap.size+1,0,none⟩) s.funcs.length s.funcs.length) hb6 (by omega) (Nat.le_refl _) ((H6.1.block _ (by omega)).trans g4) (by omega) (mY.1.keep (H6.1.block _ g3)) (H6.2.keep (far_of (Below.refl _ _) (by omega) (.inl (by omega)) (.inl g3)))
   exact ⟨_,_,y0,d0,y1,d1,rfl,key⟩
 case rest =>
  obtain ⟨xb,rb,y0,d0,y1,d1,rfl,RD0⟩:=hcut
  have RD:=hid9 RD0
  clear RD0
  obtain ⟨q0,q1⟩:=hSk wc RD.out.bel
  have hcw:=hWk wc RD.out.bel
  have HG:Hid (Calls Tryz.prog 29 #[.agg #[.slice a0 cl c0,.slice a1 s.funcs.length c1]] wc fun e W7=>∃ ga gc,e=.returned (.tuple #[.slice ga s.funcs.length gc,.int .i64 0])∧Hid (RsAt (hiC wc.heap.size W7) ga (rowsI (graphS s))∧Below wc.heap.size wc W7)):=hid9 ((rgraph_new s _ _ wc (hsw.out.keep (below_keep hcw)) hsf hI64).mono fun e W7 ⟨⟨_,h2⟩,h3⟩=>by
   obtain ⟨ga,gc,h4,h5⟩:=h3 hr
   exact ⟨ga,gc,h4,hid9 ⟨h5,h2⟩⟩)
  have HX:Hid (∀ ga W7 W,RsAt (hiC wc.heap.size W7) ga (rowsI (graphS s))→Below wc.heap.size wc W7→(∀ g,g≠rb→W.heap[g]?=W7.heap[g]?)→Fx10 s o oa ga sa a1 c1 xb rb wc.heap.size w W):=hid9 fun ga W7 W h1 h2 h3=>by
   have rd:=RD.out
   have k5:=K5.out
   have hlt:=rd.fil.lt
   have hw5:w.heap.size+2≤W5.heap.size:=k5.siz
   have kp:∀ a x,W7.cell? a=some x→a.block≠rb→W.cell? a=some x:=fun a x h hne=>by rw [cell_of_blk (h3 _ hne)];exact h
   have low:∀ a x,W5.cell? a=some x→W.cell? a=some x:=fun a x h=>by
    have hl:=World.block_lt_of_cell? W5 _ h
    refine kp _ _ (below_keep h2 _ _ (below_keep rd.bel _ _ h)) ?_
    have:=rd.rl
    omega
   have lw:∀ a x,w.cell? a=some x→W.cell? a=some x:=fun a x h=>low a x (below_keep k5.1 _ _ h)
   have b35:Below W3.heap.size W3 W5:=R4.out.trans (R5.out.2.mono R4.out.size)
   have b25:Below W2.heap.size W2 W5:=R3.out.2.trans (b35.mono R3.out.2.size)
   refine fx10_of (R3.out.1.1.keep fun a x h=>low a x (below_keep b35 _ _ h)) (h1.keep fun a x h=>?_) (R2.out.1.1.keep fun a x h=>low a x (below_keep b25 _ _ h)) hal (hfw.out.keep lw) (kp _ _ (below_keep h2 _ _ (Lib.cell_of_heap rd.box 6)) rd.ne) (low _ _ x1)
   obtain ⟨g1,g2⟩:=hiC_le h
   exact hiC_at g1 (kp _ _ g2 (by omega))
  clear hSk hWk hbM hmc hmf hml hms hAl hSt hZ0 hZ1 hb0 hDr HC5 hmk1 HMk hbA
  go_wp2_with (first
   | (go_at_call 29;refine HG.out.mono ?_;clear HG;rintro e W7 ⟨ga,gc,rfl,K7⟩)
   | fail)
  have HB0:Hid (FillB W7 rb (roomsS s (allS s).2 (o.take 0))∧Below w.heap.size w W7∧(∀ g,g≠rb→W7.heap[g]?=W7.heap[g]?)∧OkR 0 (roomsS s (allS s).2 (o.take 0))):=hid9 ⟨by
   have h:=RD.out.fil
   have h2:=h.keep (K7.out.2.block _ h.lt)
   unfold FillB roomsS
   rw [List.take_zero,List.foldl_nil,List.length_replicate]
   exact h2.congr fun j hj=>by simp [List.getD,hj],hcw.trans (K7.out.2.mono hcw.size),fun _ _=>rfl,fun z hz=>by
    rw [List.take_zero,roomsS,List.foldl_nil] at hz
    rw [(List.mem_replicate.1 hz).2]
    omega⟩
  have HXW:=hid9 (fun W=>HX.out ga W7 W K7.out.1 K7.out.2)
  have hrw:w.heap.size≤rb:=Nat.le_trans K5.out.1.size RD.out.rl
  have HT:=hid9 (ord_told ho)
  have HSb:=hid9 (And.intro hal hab)
  have HR:=hid9 hr
  have HEnd:Hid (∀ W,FillB W rb (roomsS s (allS s).2 o)→Below w.heap.size w W→(∀ g,g≠rb→W.heap[g]?=W7.heap[g]?)→W.heap[w.heap.size+1]?=some (.cells zero7 34 (0,0))∧Cel7d W xb (.slice y0 cl d0) (.slice y1 s.funcs.length d1) (.int .i64 tg) (.slice sa s.funcs.length sc) (.slice da s.funcs.length dc) (.slice oa s.funcs.length oc) (.slice (some ⟨rb,0,none⟩) s.funcs.length s.funcs.length)∧ROfEnd s w (.returned (.tuple #[.agg #[.slice y0 cl d0,.slice y1 s.funcs.length d1,.int .i64 tg,.slice sa s.funcs.length sc,.slice da s.funcs.length dc,.slice oa s.funcs.length oc,.slice (some ⟨rb,0,none⟩) s.funcs.length s.funcs.length],.int .i64 0])) (set7 W (w.heap.size+1) (.slice y0 cl d0) (.slice y1 s.funcs.length d1) (.int .i64 tg) (.slice sa s.funcs.length sc) (.slice da s.funcs.length dc) (.slice oa s.funcs.length oc) (.slice (some ⟨rb,0,none⟩) s.funcs.length s.funcs.length))):=hid9 fun W h1 h2 h3=>by
   have rd:=RD.out
   have k5:=K5.out
   have k7:=K7.out.2
   have hw5:w.heap.size+2≤W5.heap.size:=k5.siz
   have hlt:=rd.fil.lt
   have hrl:=rd.rl
   have kp:∀ a x,W7.cell? a=some x→a.block≠rb→W.cell? a=some x:=fun a x h hne=>by rw [cell_of_blk (h3 _ hne)];exact h
   have low:∀ a x,W5.cell? a=some x→W.cell? a=some x:=fun a x h=>by
    have hl:=World.block_lt_of_cell? W5 _ h
    exact kp _ _ (below_keep k7 _ _ (below_keep rd.bel _ _ h)) (by omega)
   have up:∀ a x,W.cell? a=some x→w.heap.size+2≤a.block→hiC w.heap.size (set7 W (w.heap.size+1) (.slice y0 cl d0) (.slice y1 s.funcs.length d1) (.int .i64 tg) (.slice sa s.funcs.length sc) (.slice da s.funcs.length dc) (.slice oa s.funcs.length oc) (.slice (some ⟨rb,0,none⟩) s.funcs.length s.funcs.length)) a=some x:=fun a x h hb=>hiC_at (by omega) (by rw [cell_of_blk (set7_other (by omega))];exact h)
   have b35:Below W3.heap.size W3 W5:=R4.out.trans (R5.out.2.mono R4.out.size)
   have b25:Below W2.heap.size W2 W5:=R3.out.2.trans (b35.mono R3.out.2.size)
   have z5:W7.heap[w.heap.size+1]?=some (.cells zero7 34 (0,0)):=by
    rw [k7.block _ (by have:=rd.bel.size;omega),rd.bel.block _ (by omega)]
    exact k5.2.2
   have bx:W.heap[xb]?=some (.cells #[.slice y0 cl d0,.slice y1 s.funcs.length d1,.int .i64 tg,.slice sa s.funcs.length sc,.slice da s.funcs.length dc,.slice oa s.funcs.length oc,.slice (some ⟨rb,0,none⟩) s.funcs.length s.funcs.length] 34 (0,0)):=by
    rw [h3 _ rd.ne,k7.block _ (heap_lt rd.box)]
    exact rd.box
   refine ⟨by rw [h3 _ (by omega)];exact z5,⟨Lib.cell_of_heap bx 0,Lib.cell_of_heap bx 1,Lib.cell_of_heap bx 2,Lib.cell_of_heap bx 3,Lib.cell_of_heap bx 4,Lib.cell_of_heap bx 5,Lib.cell_of_heap bx 6⟩,below_set7 h2 (by omega),.inr ⟨by rw [ofE,if_pos hr,if_pos ha,ho];simpa using ht,.slice y0 cl d0,.slice y1 s.funcs.length d1,sa,sc,da,dc,oa,oc,some ⟨rb,0,none⟩,s.funcs.length,?_⟩⟩
   obtain ⟨⟨d,hd1,hd2⟩,_⟩:=R5.out
   refine ⟨d,o,by rw [HTg.out],hr,⟨ho,rd.scr.keep fun a x h=>?_,R2.out.1.hi.keep fun a x h=>?_,hd1.hi.keep fun a x h=>?_,hd2,R3.out.1.hi.keep fun a x h=>?_,(RowN.hi (B:=w.heap.size+2) ⟨h1.ns,fun g hg=>by cases hg;simp only;omega⟩).keep fun a x h=>up a x (hiC_le h).2 (hiC_le h).1⟩⟩
   ·obtain ⟨⟨g1,g2,g3⟩,g4⟩:=farC_le h
    exact up a x (kp a x (below_keep k7 _ _ g4) g3) (by omega)
   ·exact up a x (low a x (below_keep b25 _ _ (hiC_le h).2)) (hiC_le h).1
   ·exact up a x (low a x (hiC_le h).2) (hiC_le h).1
   ·exact up a x (low a x (below_keep b35 _ _ (hiC_le h).2)) (hiC_le h).1
  clear HX hsf hI64 ht ha ho n0 n1 hs hcw q0 q1 R2 R3 R4 R5 K5 K7 RD hsw hfw HTg HcL hr
  go_loopw [15] (fun iv wr=>∃ k:Nat,iv=.int .i64 k∧k≤s.funcs.length∧Hid (FillB wr rb (roomsS s (allS s).2 (o.take k))∧Below w.heap.size w wr∧(∀ g,g≠rb→wr.heap[g]?=W7.heap[g]?)∧OkR k (roomsS s (allS s).2 (o.take k)))) (fun iv _=>s.funcs.length - (intOf iv).toNat)
  case atStart=>exact ⟨0,rfl,Nat.zero_le _,HB0⟩
  case round =>
   obtain ⟨k,rfl,hk,HL⟩:=hrel
   clear HB0
   have hfx:=HXW.out wr HL.out.2.2.1
   by_cases hlt:k<s.funcs.length
   ·have hko:k<o.length:=by rw [HT.out.1];exact hlt
    obtain ⟨f,hfe⟩:∃ f,f=o[k]:=⟨_,rfl⟩
    have hf:f<s.funcs.length:=by rw [hfe];exact (HT.out.2 k hko).1
    obtain ⟨ob,oo,eoa,q0⟩:=hfx.oat k hko
    rw [← hfe] at q0
    obtain ⟨gb,go,aj,cj,ega,q1,HQ0⟩:=hfx.gat f hf
    obtain ⟨sb,so,esa,q2⟩:=hfx.sat f hf
    obtain ⟨fb,fo,p0,m0,e0,p2,m2,e2,ea1,q3,q4,hmm⟩:=hfx.fat f hf
    have q5:=hfx.box
    have q6:=hfx.sbx
    have HT1:Hid (o.take (k+1)=o.take k++[f]):=hid9 (by rw [List.take_succ_eq_append_getElem hko,hfe])
    obtain ⟨R,hRe⟩:∃ R,R=roomsS s (allS s).2 (o.take k):=⟨_,rfl⟩
    have hRl:R.length=s.funcs.length:=by rw [hRe,rooms_len]
    have HFB:Hid (FillB wr rb R):=hid9 (by rw [hRe];exact HL.out.1)
    have HOk:Hid (OkR k R):=hid9 (by rw [hRe];exact HL.out.2.2.2)
    have HQ:=hid9 (HQ0.keep fun a x h=>(hiC_le h).2)
    obtain ⟨i1,i2,i3,i4⟩:=graph_inn s
    have HCs:Hid (∀ c ∈ gF s f,c<s.funcs.length):=hid9 fun c hc=>i1 f hf c hc
    have hcl:(gF s f).length≤16:=by
     have:(gF s f) ∈ graphS s:=by
      have:f<(graphS s).length:=by rw [i4];exact hf
      simp [gF,gOf,List.getD,this]
     have:=i3 _ this
     omega
    have hfn:=fn_le HR.out f
    have hsv:0≤(allS s).2.getD f 0∧(allS s).2.getD f 0≤1000000:=by
     have hfl:f<(allS s).2.length:=by rw [HSb.out.1];exact hf
     have:=HSb.out.2 _ (List.getElem_mem hfl)
     simpa [List.getD,hfl] using this
    have HEn:Hid (∀ (mx:Int) (W:World),W.heap=wr.heap→Below w.heap.size w W→mx=rmMax R (gF s f)→FillB (W.setCell ⟨rb,f,none⟩ (.int .i64 ((m0:Int)+m2+(allS s).2.getD f 0+mx))) rb (roomsS s (allS s).2 (o.take (k+1)))∧Below w.heap.size w (W.setCell ⟨rb,f,none⟩ (.int .i64 ((m0:Int)+m2+(allS s).2.getD f 0+mx)))∧(∀ g,g≠rb→(W.setCell ⟨rb,f,none⟩ (.int .i64 ((m0:Int)+m2+(allS s).2.getD f 0+mx))).heap[g]?=W7.heap[g]?)∧OkR (k+1) (roomsS s (allS s).2 (o.take (k+1)))):=hid9 fun mx W hW hb hmx=>by
     rw [HT1.out,rooms_snoc,← hRe]
     have hF:FillB W rb R:=Fill.keep HFB.out (by rw [hW])
     have e4:(m0:Int)+m2=(fnN s f:Int):=by rw [← hmm];simp
     refine ⟨?_,hb.setCell (p:=⟨rb,f,none⟩) hrw _,fun g hg=>?_,okR_step HOk.out hfn hsv⟩
     ·have:=hF.step f ((m0:Int)+m2+(allS s).2.getD f 0+mx) (by rw [hRl];exact hf)
      rw [rmStep,← hmx,← e4]
      exact this
     ·rw [Below.heap_setCell _ _ _ _ hg,hW]
      exact HL.out.2.2.1 g hg
    have hmb:Hid (∀ i,0≤rmMax R ((gF s f).take i)∧rmMax R ((gF s f).take i)≤32000000):=hid9 fun i=>by
     have h:=rmMax_in HOk.out ((gF s f).take i)
     have:(k:Int)*2000000≤16*2000000:=Int.mul_le_mul_of_nonneg_right (by omega) (by omega)
     omega
    have hm0:m0+m2≤16:=by omega
    subst eoa
    subst ega
    subst esa
    subst ea1
    generalize (allS s).2.getD f 0=sv at *
    obtain ⟨cs,hcs⟩:∃ cs,cs=gF s f:=⟨_,rfl⟩
    rw [← hcs] at q1 HQ HCs hcl HEn hmb
    obtain ⟨cn,hcn⟩:∃ cn,cn=cs.length:=⟨_,rfl⟩
    have HCn:=hid9 hcn
    rw [← hcn] at q1 hcl
    have HWb:=hid9 HL.out.2.1
    clear i1 i2 i3 i4 hfe hcs hcn hfx HQ0 hmm hfn HL HT HXW HOk
    go_wp2_with fail
    obtain ⟨wo,hwo⟩:∃ wo,wo=wr:=⟨_,rfl⟩
    rw [← hwo] at q0 q1 q2 q3 q4 q5 q6 HFB HQ HEn HWb ⊢
    go_loopw [17,18] (fun mv kv wq=>∃ i:Nat,kv=.int .i64 i∧i≤cn∧mv=.int .i64 (rmMax R (cs.take i))∧Hid (wq.heap=wo.heap∧Below w.heap.size w wq)) (fun _ kv _=>cn - (intOf kv).toNat)
    case atStart=>exact ⟨0,rfl,Nat.zero_le _,by simp [rmMax],hid9 ⟨rfl,HWb.out⟩⟩
    case round =>
     obtain ⟨i,rfl,hi,rfl,HI⟩:=hrel
     have hce:∀ a x,wo.cell? a=some x→wr.cell? a=some x:=fun a x h=>(cell_of_blk (W:=wo) (V:=wr) (by rw [HI.out.1])).trans h
     have t1:=hce _ _ q1
     have t5:=hce _ _ q5
     by_cases hic:i<cn
     ·have hil:i<cs.length:=by rw [← HCn.out];exact hic
      obtain ⟨c,hce2⟩:∃ c,c=cs[i]:=⟨_,rfl⟩
      have hcn2:c<s.funcs.length:=HCs.out c (by rw [hce2];exact List.getElem_mem hil)
      obtain ⟨ab,ao,eaj,t7⟩:∃ ab ao,aj=some ⟨ab,ao,none⟩∧wr.cell? ⟨ab,ao+i,none⟩=some (.int .i64 (c:Int)):=by
       rcases HQ.out with h | ⟨b,oo,e,h⟩
       ·have:(rowI cs).length=0:=by rw [h];rfl
        simp [rowI] at this
        rw [this] at hil;cases hil
       ·have:=h i (by simp [rowI];exact hil)
        refine ⟨b,oo,e,?_⟩
        refine hce _ _ ?_
        rw [this,hce2]
        simp [rowI]
      subst eaj
      have t8:wr.cell? ⟨rb,c,none⟩=some (.int .i64 (R.getD c 0)):=hce _ _ (Fill.cell HFB.out (by rw [hRl];exact hcn2))
      have HM:Hid (rmMax R (cs.take (i+1))=max (rmMax R (cs.take i)) (R.getD c 0)):=hid9 (by rw [List.take_succ_eq_append_getElem hil,rmMax,List.foldl_append,hce2];rfl)
      generalize rmMax R (cs.take i)=m0' at *
      generalize R.getD c 0=rv at *
      have hx1:(f:Int)<s.funcs.length:=by omega
      have hx2:(c:Int)<s.funcs.length:=by omega
      have hx3:(i:Int)<cn:=by omega
      clear hce2 HQ HFB hce
      go_wp2_with fail
      go_quiet (fail)
      go_wp2_with fail
      refine ⟨⟨i+1,by go_num,by omega,by rw [HM.out],hid9 ⟨HI.out.1,?_⟩⟩,by simp [intOf];omega⟩
      exact below_draws2 HI.out.2 _
     ·have e:i=cn:=by omega
      subst e
      have t0:=hce _ _ q0
      have t2:=hce _ _ q2
      have t3:=hce _ _ q3
      have t4:=hce _ _ q4
      have t6:=hce _ _ q6
      have hmx:=hmb.out i
      have HMx:Hid (rmMax R (cs.take i)=rmMax R cs):=hid9 (by rw [HCn.out,List.take_length])
      generalize rmMax R (cs.take i)=mx at *
      have t8:∃ u,wr.cell? ⟨rb,f,none⟩=some u:=⟨_,hce _ _ (Fill.cell HFB.out (by rw [hRl];exact hf))⟩
      have t9:wr.frozen? ⟨rb,f,none⟩=false:=by
       have:=Fill.frozen HFB.out f
       simp only [World.frozen?] at this ⊢
       rw [HI.out.1]
       exact this
      obtain ⟨u8,t8⟩:=t8
      have w0e:IntKind.i64.wrap ((m0:Int)+m2)=(m0:Int)+m2:=by rw [IntKind.wrap_i64];omega
      have w1e:IntKind.i64.wrap ((m0:Int)+m2+sv)=(m0:Int)+m2+sv:=by rw [IntKind.wrap_i64];omega
      have w2e:IntKind.i64.wrap ((m0:Int)+m2+sv+mx)=(m0:Int)+m2+sv+mx:=by rw [IntKind.wrap_i64];omega
      have hx1:(f:Int)<s.funcs.length:=by omega
      clear HQ HFB hce
      go_wp2_with fail
      go_region
      all_goals
       go_wp2_with fail
       obtain ⟨g1,g2,g3,g4⟩:=HEn.out mx wr HI.out.1 HI.out.2 HMx.out
       exact ⟨⟨k+1,by go_num,by omega,hid9 ⟨g1,g2.drew,g3,g4⟩⟩,by simp [intOf];omega⟩
   ·have e:k=s.funcs.length:=by omega
    subst e
    obtain ⟨q2,⟨x0,x1,x2,x3,x4,x5,x6⟩,q3⟩:=HEnd.out wr (by have h:=HL.out.1;rw [← HT.out.1,List.take_length] at h;exact h) HL.out.2.1 HL.out.2.2.1
    have HE:=hid9 (And.intro q2 q3)
    have ⟨⟨u0,m0⟩,⟨u1,m1⟩,⟨u2,m2⟩,⟨u3,m3⟩,⟨u4,m4⟩,⟨u5,m5⟩,⟨u6,m6⟩⟩:May7 wr (w.heap.size+1):=⟨⟨_,Lib.cell_of_heap q2 0⟩,⟨_,Lib.cell_of_heap q2 1⟩,⟨_,Lib.cell_of_heap q2 2⟩,⟨_,Lib.cell_of_heap q2 3⟩,⟨_,Lib.cell_of_heap q2 4⟩,⟨_,Lib.cell_of_heap q2 5⟩,⟨_,Lib.cell_of_heap q2 6⟩⟩
    have f0:=Lib.frozen_of_heap q2 0
    have f1:=Lib.frozen_of_heap q2 1
    have f2:=Lib.frozen_of_heap q2 2
    have f3:=Lib.frozen_of_heap q2 3
    have f4:=Lib.frozen_of_heap q2 4
    have f5:=Lib.frozen_of_heap q2 5
    have f6:=Lib.frozen_of_heap q2 6
    clear q2 q3 HEnd HXW HT HL hfx
    go_wp2_with fail
    exact ret_repd rfl rfl rfl rfl HE.out.1 HE.out.2
set_option maxRecDepth 100000 in
theorem rof_any (s:Scr)(V0 V1:Value)(w:World)(hs:ScIs w.cell? s V0 V1)(hsf:s.fits)(hI64:∀ f ∈ s.funcs,∀ x ∈ f.code,-9223372036854775808≤x.2∧x.2≤9223372036854775807):Calls Tryz.prog 15 #[.agg #[V0,V1]] w (ROfEnd s w):=by
 by_cases hE:ofE s=0
 ·unfold ofE at hE
  by_cases hr:s.right=true
  ·rw [if_pos hr] at hE
   by_cases ha:(allS s).1=0
   ·rw [if_pos ha] at hE
    cases ho:ordS s.funcs.length (gF s) with
    | none=>rw [ho] at hE;simp at hE
    | some o =>
     rw [ho] at hE
     exact rof_good s V0 V1 w hs hsf hI64 o hr ha ho (by simpa using hE)
   ·rw [if_neg ha] at hE;exact absurd hE ha
  ·rw [if_neg hr] at hE;cases hE
 ·exact rof_err s V0 V1 w hs hsf hI64 hE
def Cel7 (W:World)(b:Nat)(x0 x1 x2 x3 x4 x5 x6:Value):Prop:=W.cell? ⟨b,0,none⟩=some x0∧W.cell? ⟨b,1,none⟩=some x1∧W.cell? ⟨b,2,none⟩=some x2∧W.cell? ⟨b,3,none⟩=some x3∧W.cell? ⟨b,4,none⟩=some x4∧W.cell? ⟨b,5,none⟩=some x5∧W.cell? ⟨b,6,none⟩=some x6
theorem cel7_of {W:World}{b:Nat}{t:TypeId}{x0 x1 x2 x3 x4 x5 x6:Value}(h:W.heap[b]?=some (.cells #[x0,x1,x2,x3,x4,x5,x6] t (0,0))):Cel7 W b x0 x1 x2 x3 x4 x5 x6:=⟨Lib.cell_of_heap h 0,Lib.cell_of_heap h 1,Lib.cell_of_heap h 2,Lib.cell_of_heap h 3,Lib.cell_of_heap h 4,Lib.cell_of_heap h 5,Lib.cell_of_heap h 6⟩
theorem ints_same' (W:World)(L:List Int)(n:Nat)(a b:Option Addr)(x y:Nat)(hl:L.length=n)(hn:n≤16)(ha:NsAt W.cell? a L)(hb:NsAt W.cell? b L):Calls Tryz.prog 22 #[.slice a n x,.slice b n y] W fun e w'=>e=.returned (.bool true)∧Below W.heap.size W w' :=
 (lints_any a b x y n n L L hl hl W ha hb (by omega) (by omega)).mono fun e w' ⟨q1,k2,q2⟩=>⟨by rw [q1,decide_eq_true rfl],by rw [q2];exact below_draws2 (Below.refl _ _) _⟩
set_option maxRecDepth 100000 in
set_option maxHeartbeats 2000000 in
theorem same10_any (s:Scr)(g:Int)(S D O R:List Int)(n:Nat)(hS:S.length=n)(hD:D.length=n)(hO:O.length=n)(hR:R.length=n)(hn:n≤16)(p0 p1 p3 p4 p5 p6 q0 q1 q3 q4 q5 q6:Option Addr)(k0 k1 l0 l1 l3 l4 l5 l6 m0 m1 m3 m4 m5 m6:Nat)(w:World)
  (hv:ScIs w.cell? s (.slice p0 k0 l0) (.slice p1 k1 l1)) (hu:ScIs w.cell? s (.slice q0 k0 m0) (.slice q1 k1 m1)) (hsf:s.fits)
  (a3:NsAt w.cell? p3 S) (a4:NsAt w.cell? p4 D) (a5:NsAt w.cell? p5 O) (a6:NsAt w.cell? p6 R) (b3:NsAt w.cell? q3 S) (b4:NsAt w.cell? q4 D) (b5:NsAt w.cell? q5 O) (b6:NsAt w.cell? q6 R) :
  Calls Tryz.prog 8 #[.agg #[.slice p0 k0 l0,.slice p1 k1 l1,.int .i64 g,.slice p3 n l3,.slice p4 n l4,.slice p5 n l5,.slice p6 n l6],.agg #[.slice q0 k0 m0,.slice q1 k1 m1,.int .i64 g,.slice q3 n m3,.slice q4 n m4,.slice q5 n m5,.slice q6 n m6]] w fun e w'=>e=.returned (.bool true)∧Below w.heap.size w w':=by
 obtain ⟨w0,hw0⟩:∃ w0,w0=w.alloc (.cells #[.slice p0 k0 l0,.slice p1 k1 l1,.int .i64 g,.slice p3 n l3,.slice p4 n l4,.slice p5 n l5,.slice p6 n l6] 30):=⟨_,rfl⟩
 obtain ⟨w1,hw1⟩:∃ w1,w1=w0.alloc (.cells #[.slice q0 k0 m0,.slice q1 k1 m1,.int .i64 g,.slice q3 n m3,.slice q4 n m4,.slice q5 n m5,.slice q6 n m6] 34):=⟨_,rfl⟩
 have z0:w0.heap.size=w.heap.size+1:=by rw [hw0];simp
 have c0:Below w.heap.size w w0:=by rw [hw0];exact (Below.refl _ w).alloc (Nat.le_refl _) _
 have c1:Below w0.heap.size w0 w1:=by rw [hw1];exact (Below.refl _ w0).alloc (Nat.le_refl _) _
 have e0:w0.heap[w.heap.size]?=some (.cells #[.slice p0 k0 l0,.slice p1 k1 l1,.int .i64 g,.slice p3 n l3,.slice p4 n l4,.slice p5 n l5,.slice p6 n l6] 30 (0,0)):=by rw [hw0];exact heap_alloc_new w _
 have e1:w1.heap[w.heap.size+1]?=some (.cells #[.slice q0 k0 m0,.slice q1 k1 m1,.int .i64 g,.slice q3 n m3,.slice q4 n m4,.slice q5 n m5,.slice q6 n m6] 34 (0,0)):=by rw [hw1,← z0];exact heap_alloc_new w0 _
 have HN:∀ W,Below w1.heap.size w1 W→Cel7 W w.heap.size (.slice p0 k0 l0) (.slice p1 k1 l1) (.int .i64 g) (.slice p3 n l3) (.slice p4 n l4) (.slice p5 n l5) (.slice p6 n l6)∧Cel7 W (w.heap.size+1) (.slice q0 k0 m0) (.slice q1 k1 m1) (.int .i64 g) (.slice q3 n m3) (.slice q4 n m4) (.slice q5 n m5) (.slice q6 n m6)∧Below w.heap.size w W:=fun W hb=>by
  have f0:=(c1.block _ (heap_lt e0)).trans e0
  exact ⟨cel7_of ((hb.block _ (heap_lt f0)).trans f0),cel7_of ((hb.block _ (heap_lt e1)).trans e1),(c0.trans (c1.mono c0.size)).trans (hb.mono (Nat.le_trans c0.size c1.size))⟩
 have HI:∀ (L:List Int) (a b:Option Addr) (x y:Nat),L.length=n→NsAt w.cell? a L→NsAt w.cell? b L→Hid (∀ W,Below w1.heap.size w1 W→Calls Tryz.prog 22 #[.slice a n x,.slice b n y] W fun e W'=>e=.returned (.bool true)∧(Cel7 W' w.heap.size (.slice p0 k0 l0) (.slice p1 k1 l1) (.int .i64 g) (.slice p3 n l3) (.slice p4 n l4) (.slice p5 n l5) (.slice p6 n l6)∧Cel7 W' (w.heap.size+1) (.slice q0 k0 m0) (.slice q1 k1 m1) (.int .i64 g) (.slice q3 n m3) (.slice q4 n m4) (.slice q5 n m5) (.slice q6 n m6))∧Hid (Below w1.heap.size w1 W')):=fun L a b x y hl ha hb=>hid9 fun W hW=>by
  have hk:=below_keep (HN W hW).2.2
  refine (ints_same' W L n a b x y hl hn (ha.keep hk) (hb.keep hk)).mono fun e W' ⟨h1,h2⟩=>?_
  have h3:=hW.trans (h2.mono hW.size)
  exact ⟨h1,⟨(HN W' h3).1,(HN W' h3).2.1⟩,hid9 h3⟩
 have I3:=HI S p3 q3 l3 m3 hS a3 b3
 have I4:=HI D p4 q4 l4 m4 hD a4 b4
 have I5:=HI O p5 q5 l5 m5 hO a5 b5
 have I6:=HI R p6 q6 l6 m6 hR a6 b6
 have HS:Hid (Calls Tryz.prog 18 #[.agg #[.slice p0 k0 l0,.slice p1 k1 l1],.agg #[.slice q0 k0 m0,.slice q1 k1 m1]] ((w.alloc (.cells #[.slice p0 k0 l0,.slice p1 k1 l1,.int .i64 g,.slice p3 n l3,.slice p4 n l4,.slice p5 n l5,.slice p6 n l6] 30)).alloc (.cells #[.slice q0 k0 m0,.slice q1 k1 m1,.int .i64 g,.slice q3 n m3,.slice q4 n m4,.slice q5 n m5,.slice q6 n m6] 34)) fun e W'=>e=.returned (.bool true)∧(Cel7 W' w.heap.size (.slice p0 k0 l0) (.slice p1 k1 l1) (.int .i64 g) (.slice p3 n l3) (.slice p4 n l4) (.slice p5 n l5) (.slice p6 n l6)∧Cel7 W' (w.heap.size+1) (.slice q0 k0 m0) (.slice q1 k1 m1) (.int .i64 g) (.slice q3 n m3) (.slice q4 n m4) (.slice q5 n m5) (.slice q6 n m6))∧Hid (Below w1.heap.size w1 W')):=hid9 (by
  rw [← hw0,← hw1]
  have hk:=below_keep (HN w1 (Below.refl _ _)).2.2
  refine (rsame_any s s _ _ _ _ w1 (hv.keep hk) (hu.keep hk) hsf hsf).mono fun e W' ⟨h1,h2⟩=>?_
  exact ⟨by rw [h1,decide_eq_true rfl],⟨(HN W' h2).1,(HN W' h2).2.1⟩,hid9 h2⟩)
 have HE:=hid9 (fun W h=>(HN W h).2.2)
 clear HN HI e0 e1 c0 c1 hv hu a3 a4 a5 a6 b3 b4 b5 b6 hsf hS hD hO hR hw0 z0 hw1 hn
 go_enter Tryz.func8,Tryz.ntmps8
 go_wp2_with (first
  | (go_at_call 18;refine HS.out.mono ?_;clear HS;rintro e W1 ⟨rfl,⟨⟨x0,x1,x2,x3,x4,x5,x6⟩,⟨y0,y1,y2,y3,y4,y5,y6⟩⟩,K1⟩)
  | (go_at_call 22;refine (I3.out _ K1.out).mono ?_;clear I3;rintro e W2 ⟨rfl,⟨⟨x0,x1,x2,x3,x4,x5,x6⟩,⟨y0,y1,y2,y3,y4,y5,y6⟩⟩,K2⟩)
  | (go_at_call 22;refine (I4.out _ K2.out).mono ?_;clear I4;rintro e W3 ⟨rfl,⟨⟨x0,x1,x2,x3,x4,x5,x6⟩,⟨y0,y1,y2,y3,y4,y5,y6⟩⟩,K3⟩)
  | (go_at_call 22;refine (I5.out _ K3.out).mono ?_;clear I5;rintro e W4 ⟨rfl,⟨⟨x0,x1,x2,x3,x4,x5,x6⟩,⟨y0,y1,y2,y3,y4,y5,y6⟩⟩,K4⟩)
  | (go_at_call 22;refine (I6.out _ K4.out).mono ?_;clear I6;rintro e W5 ⟨rfl,_,K5⟩)
  | fail)
 all_goals first | (go_ret;exact ⟨rfl,HE.out _ K5.out⟩)
def rS (er:Int)(s:Scr):Scr:=if er=0 then s else ⟨[],[]⟩
def rG (er:Int)(s:Scr):Int:=if er=0 then (totS s).2 else 0
def rSt (er:Int)(s:Scr):List Int:=if er=0 then (allS s).2 else []
def rOd (er:Int)(s:Scr):List Int:=if er=0 then rowI ((ordS s.funcs.length (gF s)).getD []) else []
def rRm (er:Int)(s:Scr):List Int:=if er=0 then roomsS s (allS s).2 ((ordS s.funcs.length (gF s)).getD []) else []
def rDp (er:Int)(s:Scr)(D:List Int):Prop:=(er≠0∧D=[])∨(er=0∧∃ d,D=deepL s d∧DeepIs s.funcs.length (gF s) d)
structure RpV (er:Int)(s:Scr)(D:List Int)(C:Addr→Option Value)(p0:Option Addr)(l0:Nat)(p1:Option Addr)(l1:Nat)(p3 p4 p5 p6:Option Addr):Prop where
 scr:ScIs C (rS er s) (.slice p0 (rS er s).consts.length l0) (.slice p1 (rS er s).funcs.length l1)
 st:NsAt C p3 (rSt er s)
 dp:NsAt C p4 D
 dpi:rDp er s D
 od:NsAt C p5 (rOd er s)
 rm:NsAt C p6 (rRm er s)
theorem RpV.keep {er:Int}{s:Scr}{D:List Int}{C C':Addr→Option Value}{p0:Option Addr}{l0:Nat}{p1:Option Addr}{l1:Nat}{p3 p4 p5 p6:Option Addr}(h:RpV er s D C p0 l0 p1 l1 p3 p4 p5 p6)(hk:∀ a x,C a=some x→C' a=some x):RpV er s D C' p0 l0 p1 l1 p3 p4 p5 p6:=⟨h.scr.keep hk,h.st.keep hk,h.dp.keep hk,h.dpi,h.od.keep hk,h.rm.keep hk⟩
theorem rDp_uniq {er:Int}{s:Scr}{D D':List Int}(h:rDp er s D)(h':rDp er s D'):D'=D:=by
 rcases h with ⟨h1,h2⟩ | ⟨h1,d,h2,h3⟩
 ·rcases h' with ⟨_,h4⟩ | ⟨h4,_⟩
  ·rw [h2,h4]
  ·exact absurd h4 h1
 ·rcases h' with ⟨h4,_⟩ | ⟨_,d',h4,h5⟩
  ·exact absurd h1 h4
  ·rw [h2,h4]
   unfold deepL
   refine List.map_congr_left fun x hx=>?_
   rw [deep_uniq (graph_inn s).1 h3 h5 x (List.mem_range.1 hx)]
theorem rp_len {er:Int}{s:Scr}{D:List Int}(hr:er=0→s.right=true∧(allS s).1=0∧∃ o,ordS s.funcs.length (gF s)=some o)(hD:rDp er s D):(rSt er s).length=(rS er s).funcs.length∧D.length=(rS er s).funcs.length∧(rOd er s).length=(rS er s).funcs.length∧(rRm er s).length=(rS er s).funcs.length∧(rS er s).funcs.length≤16:=by
 unfold rSt rOd rRm rS
 by_cases h:er=0
 ·obtain ⟨h1,h2,o,h3⟩:=hr h
  rw [if_pos h,if_pos h,if_pos h,if_pos h,h3]
  refine ⟨(all_bounds h1 h2).1,?_,?_,rooms_len _ _ _,(right_calls h1).1⟩
  ·rcases hD with ⟨h4,_⟩ | ⟨_,d,h4,_⟩
   ·exact absurd h h4
   ·rw [h4];simp [deepL]
  ·simp only [Option.getD_some,rowI,List.length_map]
   exact (ord_told h3).1
 ·rw [if_neg h,if_neg h,if_neg h,if_neg h]
  rcases hD with ⟨_,h4⟩ | ⟨h4,_⟩
  ·rw [h4];exact ⟨rfl,rfl,rfl,rfl,by decide⟩
  ·exact absurd h4 h
theorem rs_fits {er:Int}{s:Scr}(h:s.fits):(rS er s).fits:=by
 unfold rS
 split
 ·exact h
 ·exact ⟨by decide,by decide,fun f h=>by simp at h,fun x h=>by simp at h⟩
theorem rpv_none {er:Int}{s:Scr}(C:Addr→Option Value)(h:er≠0):RpV er s [] C none 0 none 0 none none none none:=by
 refine ⟨?_,?_,.inl rfl,.inl ⟨h,rfl⟩,?_,?_⟩
 ·rw [rS,if_neg h];exact ⟨⟨none,0,rfl,.inl rfl⟩,⟨none,0,rfl,.inl rfl⟩⟩
 ·rw [rSt,if_neg h];exact .inl rfl
 ·rw [rOd,if_neg h];exact .inl rfl
 ·rw [rRm,if_neg h];exact .inl rfl
theorem RepIs.lowB {s:Scr}{B B':Nat}{W:World}{v0 v1:Value}{sa da oa:Option Addr}{g:Nat}{d:Nat→Nat}{o:List Nat}(h:RepIs s B' W v0 v1 sa da oa g d o)(hb:B≤B'):RepIs s B W v0 v1 sa da oa g d o:=by
 obtain ⟨base,hB,hO⟩:=h.own
 exact ⟨h.right,h.all,h.tot,h.ord,⟨base,by omega,hO⟩,h.st.lower hb,h.dp.lower hb,h.dpi,h.od.lower hb,h.rm.lower hb⟩
theorem rrep_uni {er:Int}{s:Scr}{w w':World}{e:Ending}(h:RRepEnd er s w e w'):∃ p0 l0 p1 l1 p3 l3 p4 l4 p5 l5 p6 l6 D,e=.returned (.tuple #[.agg #[.slice p0 (rS er s).consts.length l0,.slice p1 (rS er s).funcs.length l1,.int .i64 (rG er s),.slice p3 (rS er s).funcs.length l3,.slice p4 (rS er s).funcs.length l4,.slice p5 (rS er s).funcs.length l5,.slice p6 (rS er s).funcs.length l6],.int .i64 er])∧RpV er s D w'.cell? p0 l0 p1 l1 p3 p4 p5 p6:=by
 obtain ⟨_,⟨h1,h2⟩ | ⟨h1,v0,v1,sa,sc,da,dc,oa,oc,ra,rc,d,o,h2,h3,hR⟩⟩:=h
 ·refine ⟨none,0,none,0,none,0,none,0,none,0,none,0,[],?_,rpv_none _ h1⟩
  rw [h2,rS,rG,if_neg h1,if_neg h1]
  rfl
 ·obtain ⟨⟨p0,r0,q0,i0⟩,⟨p1,r1,q1,i1⟩⟩:=hR.scr.keep fun a x h=>(hiC_le h).2
  subst q0;subst q1
  have k:∀ a x,hiC w.heap.size w' a=some x→w'.cell? a=some x:=fun a x h=>(hiC_le h).2
  have eS:rS er s=s:=by rw [rS,if_pos h1]
  refine ⟨p0,r0,p1,r1,sa,sc,da,dc,oa,oc,ra,rc,deepL s d,?_,?_⟩
  ·rw [h2,eS,rG,if_pos h1,h1]
  ·refine ⟨by rw [eS];exact ⟨⟨p0,r0,rfl,i0⟩,⟨p1,r1,rfl,i1⟩⟩,?_,hR.dp.keep k,.inr ⟨h1,d,rfl,hR.dpi⟩,?_,?_⟩
   ·rw [rSt,if_pos h1];exact hR.st.keep k
   ·rw [rOd,if_pos h1,hR.ord];exact hR.od.keep k
   ·rw [rRm,if_pos h1,hR.ord];exact hR.rm.keep k
theorem rep_uni {er:Int}{s:Scr}{w w':World}{e:Ending}(h:RepEnd er s w e w'):∃ p0 l0 p1 l1 p3 l3 p4 l4 p5 l5 p6 l6 D,e=.returned (.tuple #[.agg #[.slice p0 (rS er s).consts.length l0,.slice p1 (rS er s).funcs.length l1,.int .i64 (rG er s),.slice p3 (rS er s).funcs.length l3,.slice p4 (rS er s).funcs.length l4,.slice p5 (rS er s).funcs.length l5,.slice p6 (rS er s).funcs.length l6],.int .i64 er])∧RpV er s D w'.cell? p0 l0 p1 l1 p3 p4 p5 p6∧((rS er s).funcs.length=0∨∃ F cs,p1=some ⟨F,0,none⟩∧w.heap.size≤F∧w'.heap[F]?=some (.cells cs 49 (0,0))∧(rS er s).funcs.length*4≤cs.size)∧(er=0→s.right=true∧(allS s).1=0∧∃ o,ordS s.funcs.length (gF s)=some o):=by
 obtain ⟨_,⟨h1,h2⟩ | ⟨h1,v0,v1,sa,sc,da,dc,oa,oc,g,d,o,h2,hR⟩⟩:=h
 ·refine ⟨none,0,none,0,none,0,none,0,none,0,none,0,[],?_,rpv_none _ h1,.inl ?_,fun h=>absurd h h1⟩
  ·rw [h2,rS,rG,if_neg h1,if_neg h1]
   rfl
  ·rw [rS,if_neg h1];rfl
 ·obtain ⟨base,hB,hO⟩:=hR.own
  have hSc:=own_is hO
  obtain ⟨⟨p0,r0,q0,i0⟩,⟨p1,r1,q1,i1⟩⟩:=hSc
  subst q0;subst q1
  have eS:rS er s=s:=by rw [rS,if_pos h1]
  refine ⟨p0,r0,p1,r1,sa,sc,da,dc,oa,oc,some ⟨g,0,none⟩,s.funcs.length,deepL s d,?_,?_,?_,fun _=>⟨hR.right,hR.all,o,hR.ord⟩⟩
  ·rw [h2,eS,rG,if_pos h1,h1]
  ·refine ⟨by rw [eS];exact ⟨⟨p0,r0,rfl,i0⟩,⟨p1,r1,rfl,i1⟩⟩,?_,hR.dp.1,.inr ⟨h1,d,rfl,hR.dpi⟩,?_,?_⟩
   ·rw [rSt,if_pos h1];exact hR.st.1
   ·rw [rOd,if_pos h1,hR.ord];exact hR.od.1
   ·rw [rRm,if_pos h1,hR.ord];exact hR.rm.1
  ·rw [eS]
   rcases hO.funcs with h0 | ⟨F,N,c,e1,h3,h4,cs,h5,h6,_⟩
   ·left;rw [h0];rfl
   ·injection e1 with e1 _ _
    exact .inr ⟨F,cs,e1,Nat.le_trans hB h3,h5,by omega⟩
theorem ofe_facts {s:Scr}(h:ofE s=0):s.right=true∧(allS s).1=0∧∃ o,ordS s.funcs.length (gF s)=some o:=by
 unfold ofE at h
 by_cases hr:s.right=true
 ·rw [if_pos hr] at h
  by_cases ha:(allS s).1=0
  ·rw [if_pos ha] at h
   cases ho:ordS s.funcs.length (gF s) with
   | none=>rw [ho] at h;simp at h
   | some o=>exact ⟨hr,ha,o,rfl⟩
  ·rw [if_neg ha] at h;exact absurd h ha
 ·rw [if_neg hr] at h;cases h
theorem same_uni {er:Int}{s:Scr}{D D':List Int}{p0 p1 p3 p4 p5 p6 q0 q1 q3 q4 q5 q6:Option Addr}{l0 l1 l3 l4 l5 l6 m0 m1 m3 m4 m5 m6:Nat}{W:World}(hp:RpV er s D W.cell? p0 l0 p1 l1 p3 p4 p5 p6)(hq:RpV er s D' W.cell? q0 m0 q1 m1 q3 q4 q5 q6)(hf:er=0→s.right=true∧(allS s).1=0∧∃ o,ordS s.funcs.length (gF s)=some o)(hsf:s.fits) :
  Calls Tryz.prog 8 #[.agg #[.slice p0 (rS er s).consts.length l0,.slice p1 (rS er s).funcs.length l1,.int .i64 (rG er s),.slice p3 (rS er s).funcs.length l3,.slice p4 (rS er s).funcs.length l4,.slice p5 (rS er s).funcs.length l5,.slice p6 (rS er s).funcs.length l6],.agg #[.slice q0 (rS er s).consts.length m0,.slice q1 (rS er s).funcs.length m1,.int .i64 (rG er s),.slice q3 (rS er s).funcs.length m3,.slice q4 (rS er s).funcs.length m4,.slice q5 (rS er s).funcs.length m5,.slice q6 (rS er s).funcs.length m6]] W fun e w'=>e=.returned (.bool true)∧Below W.heap.size W w':=by
 obtain rfl:=rDp_uniq hp.dpi hq.dpi
 obtain ⟨g1,g2,g3,g4,g5⟩:=rp_len hf hp.dpi
 exact same10_any (rS er s) (rG er s) (rSt er s) D' (rOd er s) (rRm er s) _ g1 g2 g3 g4 g5 p0 p1 p3 p4 p5 p6 q0 q1 q3 q4 q5 q6 _ _ l0 l1 l3 l4 l5 l6 m0 m1 m3 m4 m5 m6 W hp.scr hq.scr (rs_fits hsf) hp.st hp.dp hp.od hp.rm hq.st hq.dp hq.od hq.rm
end Go.Proofs.YtpmlnkjamhelnaaGreat
