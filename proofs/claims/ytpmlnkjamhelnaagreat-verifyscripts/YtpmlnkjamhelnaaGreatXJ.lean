/- Layer 8: calls.Graph. -/
import Derived.Test.YtpmlnkjamhelnaaGreatXH
import Derived.Test.YtpmlnkjamhelnaaGreatXE
namespace Go.Proofs.YtpmlnkjamhelnaaGreat
open Go.RowKit
theorem row_blk {w w':World}{base n:Nat}{e:TypeId}{v:Value}{xs:List Value}(h:w.ownsRow base e 1 v n xs)(k:∀ g,base≤g→g<w.heap.size→v.ownBlock=some g→w'.heap[g]?=w.heap[g]?):w'.ownsRow base e 1 v n xs:=by
 refine ⟨h.1,?_⟩
 rcases h.2 with h | ⟨g,cap,cur,rfl,h2,h3,h4⟩
 ·exact .inl h
 ·exact .inr ⟨g,cap,cur,rfl,h2,(k g h2 (heap_lt h3) rfl).trans h3,h4⟩
theorem row_base {w:World}{base base' n:Nat}{e:TypeId}{v:Value}{xs:List Value}(h:w.ownsRow base e 1 v n xs)(hb:base'≤base):w.ownsRow base' e 1 v n xs:=by
 refine ⟨h.1,?_⟩
 rcases h.2 with h | ⟨g,cap,cur,rfl,h2,h3,h4⟩
 ·exact .inl h
 ·exact .inr ⟨g,cap,cur,rfl,by omega,h3,h4⟩
def graphS (s:Scr):List (List Nat):=s.funcs.map fun f=>gRow s.funcs.length f.code
def GraphEnd (s:Scr)(w:World)(e:Ending)(w':World):Prop :=
 (if s.right=true then ∃ ga gc,e=.returned (.tuple #[.slice ga s.funcs.length gc,.int .i64 0])∧RsAt w'.cell? ga (rowsI (graphS s)) else e=.returned (.tuple #[.slice none 0 0,.int .i64 30]))∧Below w.heap.size w w'
def offB (b:Nat)(w:World):Addr→Option Value:=fun a=>if a.block=b then none else w.cell? a
theorem offB_of {b:Nat}{w:World}{a:Addr}{v:Value}(h:offB b w a=some v):a.block≠b∧w.cell? a=some v:=by
 unfold offB at h
 split at h
 ·cases h
 ·exact ⟨by assumption,h⟩
theorem offB_mk {b:Nat}{w:World}{a:Addr}{v:Value}(h1:a.block≠b)(h:w.cell? a=some v):offB b w a=some v:=by unfold offB;rw [if_neg h1];exact h
def RowsK (b:Nat)(w:World)(R:List (List Int))(k:Nat)(f:Nat→Value):Prop:=∀ j (h:j<R.length),j<k→∃ aj cj,f j=.slice aj R[j].length cj∧NsAt (offB b w) aj R[j]
theorem RowsK.keep {b:Nat}{w w':World}{R:List (List Int)}{k:Nat}{f:Nat→Value}(h:RowsK b w R k f)(hb:Below w.heap.size w w'):RowsK b w' R k f:=fun j hj hk=>by
 obtain ⟨aj,cj,h1,h2⟩:=h j hj hk
 refine ⟨aj,cj,h1,h2.keep fun x v hx=>?_⟩
 obtain ⟨e1,e2⟩:=offB_of hx
 exact offB_mk e1 ((hb.cell (World.block_lt_of_cell? w x e2)).trans e2)
theorem RowsK.set {b:Nat}{w:World}{R:List (List Int)}{k:Nat}{f:Nat→Value}(h:RowsK b w R k f)(hk:k<R.length)(a:Option Addr)(c:Nat)(hn:NsAt (offB b w) a R[k])(o:Nat)(u:Value) :
  RowsK b (w.setCell ⟨b,o,none⟩ u) R (k+1) (fun j=>if j=k then .slice a R[k].length c else f j):=fun j hj hjk=>by
 have kp:∀ x v,offB b w x=some v→offB b (w.setCell ⟨b,o,none⟩ u) x=some v:=fun x v hx=>by
  obtain ⟨e1,e2⟩:=offB_of hx
  exact offB_mk e1 ((World.cell?_of_block (Below.heap_setCell _ _ _ _ e1)).trans e2)
 by_cases e:j=k
 ·subst e
  exact ⟨a,c,if_pos rfl,hn.keep kp⟩
 ·obtain ⟨aj,cj,h1,h2⟩:=h j hj (by omega)
  exact ⟨aj,cj,(if_neg e).trans h1,h2.keep kp⟩
theorem RowsK.rows {b:Nat}{w:World}{R:List (List Int)}{n:Nat}{f:Nat→Value}{e:TypeId}(hn:R.length=n)(h:RowsK b w R n f)(hf:Fill w b e n f):RsAt w.cell? (some ⟨b,0,none⟩) R:=by
 refine .inr ⟨b,0,rfl,fun j hj=>?_⟩
 obtain ⟨aj,cj,h1,h2⟩:=h j hj (by omega)
 refine ⟨aj,cj,?_,h2.keep fun x v hx=>(offB_of hx).2⟩
 rw [Nat.zero_add,hf.cell (by omega),h1]
theorem ns_own {w:World}{base:Nat}{a:Option Addr}{n c:Nat}{ns:List Int}(h:w.ownsRow base 3 1 (.slice a n c) n (cellsN ns)){b:Nat}(hb:b<base):NsAt (offB b w) a ns:=by
 obtain ⟨a',c',e,_,_,h1⟩:=row_form h
 cases e
 have hl:(cellsN ns).length=n*1:=h.1
 rw [cellsN,List.length_map] at hl
 rcases h1 with ⟨_,h2,_⟩ | ⟨g,e,h2,_,h3⟩
 ·left
  cases ns with
  | nil=>rfl
  | cons x l=>simp at hl;omega
 ·refine .inr ⟨g,0,e,fun j hj=>offB_mk (by show g≠b;omega) ?_⟩
  rw [Nat.zero_add]
  exact h3 j _ (by simp [cellsN,hj])
theorem graph_len (s:Scr):(rowsI (graphS s)).length=s.funcs.length:=by simp [rowsI,graphS]
theorem graph_row {s:Scr}(hr:∀ g ∈ s.funcs,∀ x ∈ g.code,x.1=53→0≤x.2∧x.2<s.funcs.length){k:Nat}(hk:k<s.funcs.length):(rowsI (graphS s))[k]'(by rw [graph_len];exact hk)=calleesS (s.funcs[k]).code:=by
 simp only [rowsI,graphS,List.getElem_map,rowI]
 exact (callees_row (hr _ (List.getElem_mem hk))).symm
theorem right_calls {s:Scr}(h:s.right=true):s.funcs.length≤16∧1≤s.funcs.length∧∀ g ∈ s.funcs,g.code.length≤256∧∀ x ∈ g.code,x.1=53→0≤x.2∧x.2<s.funcs.length:=by
 simp only [Scr.right,Bool.and_eq_true,decide_eq_true_eq,List.all_eq_true] at h
 obtain ⟨⟨⟨⟨_,h1⟩,h2⟩,_⟩,h3⟩:=h
 refine ⟨h2,h1,fun g hg=>?_⟩
 have hg:=h3 g hg
 simp only [Fn.right,Fn.lists,Bool.and_eq_true,decide_eq_true_eq,List.all_eq_true] at hg
 obtain ⟨⟨⟨⟨⟨g1,g2⟩,g3⟩,g4⟩,_⟩,g5⟩:=hg
 refine ⟨g4,fun x hx hn=>?_⟩
 have:=g5 x hx
 simp only [insOk,Bool.and_eq_true,decide_eq_true_eq] at this
 obtain ⟨⟨⟨_,_⟩,i3⟩,i4⟩:=this
 have e:takesN x.1=5:=by rw [hn];rfl
 rw [e] at i3 i4
 simp [boundsN] at i3 i4
 omega
set_option maxRecDepth 100000 in
set_option maxHeartbeats 1000000 in
theorem graph_new (s:Scr)(V0 V1:Value)(w:World)(hs:ScIs w.cell? s V0 V1)(hsf:s.fits):Calls Tryz.prog 53 #[.agg #[V0,V1]] w fun e w'=>GraphEnd s w e w'∧FreshE w e:=by
 obtain ⟨⟨a0,c0,rfl,n0⟩,⟨a1,c1,rfl,n1⟩⟩:=hs
 have b1:=(Below.refl _ w).alloc (Nat.le_refl _) (.cells #[.slice a0 s.consts.length c0,.slice a1 s.funcs.length c1] 27)
 have hk1:∀ x v,w.cell? x=some v→(w.alloc (.cells #[.slice a0 s.consts.length c0,.slice a1 s.funcs.length c1] 27)).cell? x=some v:=fun x v h=>(b1.cell (World.block_lt_of_cell? w x h)).trans h
 have hRt:=right4_any s _ _ (w.alloc (.cells #[.slice a0 s.consts.length c0,.slice a1 s.funcs.length c1] 27)) ⟨⟨a0,c0,rfl,n0.keep hk1⟩,⟨a1,c1,rfl,n1.keep hk1⟩⟩ hsf
 have HR:Hid (Calls Tryz.prog 30 #[.agg #[.slice a0 s.consts.length c0,.slice a1 s.funcs.length c1]] (w.alloc (.cells #[.slice a0 s.consts.length c0,.slice a1 s.funcs.length c1] 27)) fun e w1=>e=.returned (.bool s.right)∧w1.cell? ⟨w.heap.size,1,none⟩=some (.slice a1 s.funcs.length c1)∧Hid (Below w.heap.size w w1)):=hid7 (hRt.mono fun e w1 ⟨h1,h2⟩=>by
  have e2:(w.alloc (.cells #[.slice a0 s.consts.length c0,.slice a1 s.funcs.length c1] 27)).heap[w.heap.size]?=some (.cells #[.slice a0 s.consts.length c0,.slice a1 s.funcs.length c1] 27 (0,0)):=heap_alloc_new w _
  have e3:=(h2.block _ (heap_lt e2)).trans e2
  exact ⟨h1,by simp [World.cell?,e3],hid7 (b1.trans (h2.mono b1.size))⟩)
 have hfl:=hsf.2.1
 by_cases hr:s.right=true
 ·rw [hr] at HR
  clear hRt hk1 n0 b1
  obtain ⟨fl,hfe⟩:∃ fl,fl=s.funcs.length:=⟨_,rfl⟩
  have HFe:=hid7 hfe
  rw [← hfe] at HR hfl ⊢
  generalize s.consts.length=cl at HR ⊢
  clear hfe
  obtain ⟨r1,r2,r3⟩:=right_calls hr
  have HMk:Hid (∀ W:World,∃ W2,(Instr.makeSlice 58 (.int .i64 (fl:Int)) (.int .i64 (fl:Int))).run Tryz.prog W=.ok (.slice (some ⟨W.heap.size,0,none⟩) fl fl) W2∧Fill W2 W.heap.size 28 fl (fun _=>.slice none 0 0)∧Below W.heap.size W W2):=hid7 fun W=>made8 W 58 28 (.slice none 0 0) 24 fl Tryz.underlying58 (by kernel_rfl) rfl (by omega) (by rw [HFe.out];omega)
  go_enter Tryz.func53,Tryz.ntmps53
  go_wp2_with (first | (go_at_call 30;refine HR.out.mono ?_;clear HR;rintro e w1 ⟨rfl,d1,B1⟩;obtain ⟨w2,hm2,F2,b2⟩:=HMk.out w1;have hF2:=hid7 (And.intro F2 b2);clear HMk F2 b2) | fail)
  obtain ⟨R,hR⟩:∃ R,R=rowsI (graphS s):=⟨_,rfl⟩
  have HRl:Hid (R.length=fl∧∀ k (h:k<R.length) (h2:k<s.funcs.length),R[k]=calleesS (s.funcs[k]).code):=hid7 ⟨by rw [hR,graph_len,HFe.out],fun k h h2=>by subst hR;exact graph_row (fun g hg=>(r3 g hg).2) h2⟩
  have HEnd:Hid (∀ ga gc W e,RsAt W.cell? ga R→Below w.heap.size w W→e=.returned (.tuple #[.slice ga fl gc,.int .i64 0])→GraphEnd s w e W):=hid7 fun ga gc W e h1 h2 h3=>by
   refine ⟨?_,h2⟩
   rw [if_pos hr]
   exact ⟨ga,gc,by rw [← HFe.out];exact h3,by rw [← hR];exact h1⟩
  have HF1:=hid7 n1
  clear hR n1 hm2
  go_loopw [15] (fun iv wr=>∃ k:Nat,iv=.int .i64 k∧k≤fl∧Hid (∃ f,Fill wr w1.heap.size 28 fl f∧RowsK w1.heap.size wr R k f∧Below w1.heap.size w1 wr)) (fun iv _=>fl - (intOf iv).toNat)
  case atStart=>exact ⟨0,rfl,Nat.zero_le _,hid7 ⟨_,hF2.out.1,fun j _ h=>by omega,hF2.out.2⟩⟩
  case round =>
   obtain ⟨k,rfl,hk,HLp⟩:=hrel
   obtain ⟨f,Ff,Rf,Bf⟩:=HLp.out
   have Bw:=B1.out.trans (Bf.mono B1.out.size)
   clear hF2
   by_cases hlt:k<fl
   ·have hkl:k<s.funcs.length:=by rw [← HFe.out];exact hlt
    have d2:=(Bf.cell (World.block_lt_of_cell? w1 _ d1)).trans d1
    obtain ⟨fb,fo,e1,x3,N3,c3,hN3,q3,i3⟩:∃ fb fo,a1=some ⟨fb,fo,none⟩∧∃ x3 N3 c3,(s.funcs[k]).code.length=N3∧wr.cell? ⟨fb,fo+k*4+3,none⟩=some (.slice x3 N3 c3)∧IsAt wr.cell? x3 (s.funcs[k]).code:=by
     rcases HF1.out.keep (below_keep Bw) with h | ⟨fb,fo,e,h⟩
     ·rw [h] at hkl;cases hkl
     ·obtain ⟨v0,v1,v2,v3,_,_,_,h4,h5⟩:=h k hkl
      obtain ⟨_,_,_,a3,c3,e3,i3⟩:=h5
      exact ⟨fb,fo,e,a3,_,c3,rfl,by rw [h4,e3],i3⟩
    subst e1
    have hkR:k<R.length:=by rw [HRl.out.1];exact hlt
    have hC:=callees_any _ x3 N3 c3 hN3 (by have:=(r3 _ (List.getElem_mem hkl)).1;omega) wr i3
    rw [← HRl.out.2 k hkR hkl] at hC
    have gbl:=Ff.lt
    have HC:Hid (Calls Tryz.prog 85 #[.slice x3 N3 c3] wr fun e w'=>∃ a c n,e=.returned (.slice a n c)∧w'.cell? ⟨w1.heap.size,k,none⟩=some (f k)∧w'.frozen? ⟨w1.heap.size,k,none⟩=false∧Hid (∃ f,Fill (w'.setCell ⟨w1.heap.size,k,none⟩ (.slice a n c)) w1.heap.size 28 fl f∧RowsK w1.heap.size (w'.setCell ⟨w1.heap.size,k,none⟩ (.slice a n c)) R (k+1) f∧Below w1.heap.size w1 (w'.setCell ⟨w1.heap.size,k,none⟩ (.slice a n c)))):=hid7 (hC.mono fun e w' ⟨a,c,h1,h2,h3⟩=>by
     have F3:=Ff.keep (h3.block _ gbl)
     refine ⟨a,c,_,h1,F3.cell hlt,F3.frozen k,hid7 ⟨_,F3.set k _,?_,(Bf.trans (h3.mono (Nat.le_of_lt gbl))).setCell (p:=⟨w1.heap.size,k,none⟩) (Nat.le_refl _) _⟩⟩
     exact (Rf.keep h3).set hkR a c (ns_own h2 gbl) k _)
    clear hC HLp Ff Rf Bf HRl HEnd HF1 i3 hN3 hkR hkl r3 Bw
    go_wp2_with (first | (go_at_call 85;refine HC.out.mono ?_;clear HC;rintro e w4 ⟨a4,c4,n4,rfl,g1,g2,L4⟩) | fail)
    exact ⟨⟨k+1,by go_num,by omega,L4⟩,by simp [intOf];omega⟩
   ·obtain rfl:k=fl:=by omega
    have HE:=hid7 (And.intro (HEnd.out (some ⟨w1.heap.size,0,none⟩) k wr _ (Rf.rows HRl.out.1 Ff) Bw rfl) (fresh_at (w:=w) (off:=0) (n:=k) (c:=k) (x:=.int .i64 0) (g:=w1.heap.size) B1.out.size))
    clear HLp Ff Rf Bf HRl HEnd HF1 r3 Bw
    go_wp2_with fail
    go_ret2
    exact HE.out
 ·have hr':s.right=false:=by simpa using hr
  rw [hr'] at HR
  have HEnd:Hid (∀ W e,Below w.heap.size w W→e=.returned (.tuple #[.slice none 0 0,.int .i64 30])→GraphEnd s w e W):=hid7 fun W e h2 h3=>by
   refine ⟨?_,h2⟩
   rw [if_neg hr]
   exact h3
  clear hRt hk1 n0 b1 n1 hr hr'
  generalize s.funcs.length=fl at HR hfl ⊢
  generalize s.consts.length=cl at HR ⊢
  go_enter Tryz.func53,Tryz.ntmps53
  go_wp2_with (first | (go_at_call 30;refine HR.out.mono ?_;clear HR;rintro e w1 ⟨rfl,d1,B1⟩) | fail)
  go_ret2
  exact ⟨HEnd.out _ _ B1.out rfl,fresh_nil _ _ _ _⟩
theorem graph_any (s:Scr)(V0 V1:Value)(w:World)(hs:ScIs w.cell? s V0 V1)(hsf:s.fits):Calls Tryz.prog 53 #[.agg #[V0,V1]] w (GraphEnd s w):=(graph_new s V0 V1 w hs hsf).mono fun _ _ h=>h.1
end Go.Proofs.YtpmlnkjamhelnaaGreat
