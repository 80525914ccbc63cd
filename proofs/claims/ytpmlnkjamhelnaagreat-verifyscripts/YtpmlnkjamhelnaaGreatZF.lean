/- Layer 10: verify.Of, step by step: what stands behind each step. -/
import Derived.Test.YtpmlnkjamhelnaaGreatYR
import Derived.Test.YtpmlnkjamhelnaaGreatTS
namespace Go.Proofs.YtpmlnkjamhelnaaGreat
open Go.RowKit
theorem own_is {w:World}{base:Nat}{s:Scr}{v0 v1:Value}(h:ScrOwn w base s v0 v1):ScIs w.cell? s v0 v1:=by
 obtain ⟨hn,a,c,rfl,_,hS⟩:=ss_of_row h.consts (C:=w.cell?) (fun _ _ _ e=>e)
 refine ⟨⟨a,c,by rw [hn],hS⟩,?_⟩
 rcases h.funcs with h0 | ⟨F,N,c',rfl,_,_,cs,h1,_,h3,_⟩
 ·obtain ⟨a',c',rfl⟩:=h.form
  exact ⟨a',c',rfl,.inl h0⟩
 ·refine ⟨_,c',rfl,.inr ⟨F,0,rfl,fun j hj=>?_⟩⟩
  obtain ⟨u0,u1,u2,u3,q0,q1,q2,q3,hO⟩:=h3 j hj hj
  rw [Nat.zero_add]
  have key:∀ (i:Nat) (u:Value),cs[i]?=some u→w.cell? ⟨F,i,none⟩=some u:=fun i u e=>by rw [Lib.cell_of_heap h1];exact e
  obtain ⟨_,a0,c0,e0,_,n0⟩:=ns_of_row hO.1 (C:=w.cell?) (fun _ _ _ e=>e)
  obtain ⟨_,a1,c1,e1,_,n1⟩:=ns_of_row hO.2.1 (C:=w.cell?) (fun _ _ _ e=>e)
  obtain ⟨_,a2,c2,e2,_,n2⟩:=ns_of_row hO.2.2.1 (C:=w.cell?) (fun _ _ _ e=>e)
  obtain ⟨_,a3,c3,e3,_,n3⟩:=is_of_row hO.2.2.2 (C:=w.cell?) (fun _ _ _ e=>e)
  exact ⟨u0,u1,u2,u3,key _ _ q0,key _ _ q1,key _ _ q2,key _ _ q3,⟨a0,c0,e0,n0⟩,⟨a1,c1,e1,n1⟩,⟨a2,c2,e2,n2⟩,⟨a3,c3,e3,n3⟩⟩
theorem own_below {w w':World}{base:Nat}{s:Scr}{v0 v1:Value}(h:ScrOwn w base s v0 v1)(hb:Below w.heap.size w w'):ScrOwn w' base s v0 v1:=by
 refine ⟨row_below2 h.consts hb,h.form,?_⟩
 rcases h.funcs with h0 | ⟨F,N,c',e,h1,h2,h3⟩
 ·exact .inl h0
 ·exact .inr ⟨F,N,c',e,h1,h2,h3.below hb⟩
theorem own_set {w:World}{base b o:Nat}{s:Scr}{u v0 v1:Value}(h:ScrOwn w base s v0 v1)(hb:b<base):ScrOwn (w.setCell ⟨b,o,none⟩ u) base s v0 v1:=by
 refine ⟨ownsRow_setCell_other' h.consts hb _,h.form,?_⟩
 rcases h.funcs with h0 | ⟨F,N,c',e,h1,h2,h3⟩
 ·exact .inl h0
 ·exact .inr ⟨F,N,c',e,h1,h2,h3.done hb (by omega) (Nat.le_refl _)⟩
def RowN (B:Nat)(W:World)(a:Option Addr)(ns:List Int):Prop:=NsAt W.cell? a ns∧∀ g,a=some g→B≤g.block
theorem RowN.set {B b i:Nat}{W:World}{a:Option Addr}{ns:List Int}{v:Value}(h:RowN B W a ns)(hb:b<B):RowN B (W.setCell ⟨b,i,none⟩ v) a ns:=by
 refine ⟨?_,h.2⟩
 rcases h.1 with h0 | ⟨g,off,e,h1⟩
 ·exact .inl h0
 ·have:=h.2 _ e
  simp only at this
  exact .inr ⟨g,off,e,fun j hj=>cell_setCell_other9 (h1 j hj) (fun e=>by omega)⟩
theorem RowN.keep {B:Nat}{W W':World}{a:Option Addr}{ns:List Int}(h:RowN B W a ns)(hb:Below W.heap.size W W'):RowN B W' a ns:=⟨h.1.keep (below_keep hb),h.2⟩
def zero7:Array Value:=#[.slice none 0 0,.slice none 0 0,.int .i64 0,.slice none 0 0,.slice none 0 0,.slice none 0 0,.slice none 0 0]
def ofE (s:Scr):Int:=if s.right=true then (if (allS s).1=0 then (if (ordS s.funcs.length (gF s)).isNone=true then 34 else (totS s).1) else (allS s).1) else 30
def P1 (s:Scr)(B:Nat)(D:List Value)(W:World):Prop:=s.right=true∧∃ v0 v1 base,D[0]?=some v0∧D[1]?=some v1∧B≤base∧ScrOwn W base s v0 v1
def P2 (s:Scr)(B:Nat)(D:List Value)(W:World):Prop:=(allS s).1=0∧∃ a c,D[3]?=some (.slice a (allS s).2.length c)∧RowN B W a (allS s).2
def P3 (s:Scr)(B:Nat)(D:List Value)(W:World):Prop:=∃ o a c,ordS s.funcs.length (gF s)=some o∧D[5]?=some (.slice a o.length c)∧RowN B W a (rowI o)
def P4 (s:Scr)(D:List Value):Prop:=(totS s).1=0∧D[2]?=some (.int .i64 (totS s).2)
def P5 (s:Scr)(B:Nat)(D:List Value)(W:World):Prop:=∃ a c d,D[4]?=some (.slice a s.funcs.length c)∧RowN B W a (deepL s d)∧DeepIs s.funcs.length (gF s) d
def P6 (s:Scr)(D:List Value)(W:World):Prop:=∃ a c,D[7]?=some (.slice a s.funcs.length c)∧RsAt W.cell? a (rowsI (graphS s))
def P7 (s:Scr)(B:Nat)(D:List Value)(W:World):Prop:=∃ g o,ordS s.funcs.length (gF s)=some o∧D[6]?=some (.slice (some ⟨g,0,none⟩) s.funcs.length s.funcs.length)∧RowN B W (some ⟨g,0,none⟩) (roomsS s (allS s).2 o)
structure Inv10 (s:Scr)(B k:Nat)(D:List Value)(W:World):Prop where
 len:D.length=8
 p1:1≤k→P1 s B D W
 p2:2≤k→P2 s B D W
 p3:3≤k→P3 s B D W
 p4:4≤k→P4 s D
 p5:5≤k→P5 s B D W
 p6:k=6→P6 s D W
 p7:7≤k→P7 s B D W
 z7:k≤5→D[7]?=some (.slice none 0 0)
theorem P1.go {s:Scr}{B db i:Nat}{D:List Value}{W W1:World}{v:Value}(h:P1 s B D W)(hb:Below W.heap.size W W1)(hd:db<B)(h0:i≠0)(h1:i≠1):P1 s B (D.set i v) (W1.setCell ⟨db,i,none⟩ v):=by
 obtain ⟨hr,v0,v1,base,q0,q1,hB,hO⟩:=h
 exact ⟨hr,v0,v1,base,by rw [List.getElem?_set_ne h0];exact q0,by rw [List.getElem?_set_ne h1];exact q1,hB,own_set (own_below hO hb) (by omega)⟩
theorem P2.go {s:Scr}{B db i:Nat}{D:List Value}{W W1:World}{v:Value}(h:P2 s B D W)(hb:Below W.heap.size W W1)(hd:db<B)(h0:i≠3):P2 s B (D.set i v) (W1.setCell ⟨db,i,none⟩ v):=by
 obtain ⟨he,a,c,q,hR⟩:=h
 exact ⟨he,a,c,by rw [List.getElem?_set_ne h0];exact q,(hR.keep hb).set hd⟩
theorem P3.go {s:Scr}{B db i:Nat}{D:List Value}{W W1:World}{v:Value}(h:P3 s B D W)(hb:Below W.heap.size W W1)(hd:db<B)(h0:i≠5):P3 s B (D.set i v) (W1.setCell ⟨db,i,none⟩ v):=by
 obtain ⟨o,a,c,he,q,hR⟩:=h
 exact ⟨o,a,c,he,by rw [List.getElem?_set_ne h0];exact q,(hR.keep hb).set hd⟩
theorem P4.go {s:Scr}{i:Nat}{D:List Value}{v:Value}(h:P4 s D)(h0:i≠2):P4 s (D.set i v):=⟨h.1,by rw [List.getElem?_set_ne h0];exact h.2⟩
theorem P5.go {s:Scr}{B db i:Nat}{D:List Value}{W W1:World}{v:Value}(h:P5 s B D W)(hb:Below W.heap.size W W1)(hd:db<B)(h0:i≠4):P5 s B (D.set i v) (W1.setCell ⟨db,i,none⟩ v):=by
 obtain ⟨a,c,d,q,hR,hD⟩:=h
 exact ⟨a,c,d,by rw [List.getElem?_set_ne h0];exact q,(hR.keep hb).set hd,hD⟩
def GoEnd (s:Scr)(w:World)(B db sb pb rb:Nat)(V0 V1:Value)(k:Nat)(e:Ending)(W':World):Prop :=
 ∃ er D,e=.returned (.int .i64 er)∧St10 w db sb pb V0 V1 D W'∧W'.heap[rb]?=some (.cells zero7 30 (0,0))∧(er≠0∧er=ofE s∨er=0∧Inv10 s B (k+1) D W')
theorem rb_go {W W1:World}{rb db i:Nat}{v:Value}(h:W.heap[rb]?=some (.cells zero7 30 (0,0)))(hb:Below W.heap.size W W1)(hne:rb≠db):(W1.setCell ⟨db,i,none⟩ v).heap[rb]?=some (.cells zero7 30 (0,0)):=by
 rw [heap_setCell_other W1 ⟨db,i,none⟩ rb v (fun e=>hne e)]
 exact (hb.block _ (heap_lt h)).trans h
theorem all_from {fs:List Fn}:∀ (m k:Nat) (acc:List Int),(allFrom fs m k acc).1=0→(∀ z ∈ acc,0≤z∧z≤1000000)→(allFrom fs m k acc).2.length=acc.length+m∧∀ z ∈ (allFrom fs m k acc).2,0≤z∧z≤1000000
 | 0,k,acc,_,ha=>⟨rfl,ha⟩
 | m+1,k,acc,h,ha=>by
  rw [allFrom] at h ⊢
  by_cases h0:(stacksS fs (fnAt fs k)).1=0
  ·rw [if_pos h0] at h ⊢
   have hl:=longS_le (stacks_rows fs (fnAt fs k)).1 (stacksS fs (fnAt fs k)).2.length
   obtain ⟨h1,h2⟩:=all_from m (k+1) _ h (fun z hz=>by
    rcases List.mem_append.1 hz with hz | hz
    ·exact ha z hz
    ·rw [List.mem_singleton.1 hz];omega)
   refine ⟨?_,h2⟩
   rw [h1,List.length_append,List.length_singleton]
   omega
  ·rw [if_neg h0] at h
   exact absurd h h0
theorem all_bounds {s:Scr}(hr:s.right=true)(h:(allS s).1=0):(allS s).2.length=s.funcs.length∧∀ z ∈ (allS s).2,0≤z∧z≤1000000:=by
 rw [allS,if_pos hr] at h ⊢
 obtain ⟨h1,h2⟩:=all_from _ _ _ h (fun z hz=>by cases hz)
 exact ⟨by rw [h1];simp,h2⟩
theorem go1 (s:Scr)(a0 a1:Option Addr)(c0 c1:Nat)(w:World)(B db sb pb rb:Nat)(D:List Value)(W:World)(hs:ScIs w.cell? s (.slice a0 s.consts.length c0) (.slice a1 s.funcs.length c1))(hsf:s.fits)(hS:St10 w db sb pb (.slice a0 s.consts.length c0) (.slice a1 s.funcs.length c1) D W)(hI:Inv10 s B 0 D W)(hr:W.heap[rb]?=some (.cells zero7 30 (0,0)))(hne:rb≠db)(hdB:db<B)(hB:B≤W.heap.size) :
  Calls Tryz.prog 42 #[.pointer (some ⟨sb,0,none⟩),.pointer (some ⟨pb,0,none⟩)] W (GoEnd s w B db sb pb rb (.slice a0 s.consts.length c0) (.slice a1 s.funcs.length c1) 0):=by
 have hk:∀ W0,Below W.heap.size W W0→ScIs W0.cell? s (.slice a0 s.consts.length c0) (.slice a1 s.funcs.length c1):=fun W0 hb=>hs.keep (below_keep (hS.low.trans (hb.mono hS.low.size)))
 by_cases hri:s.right=true
 ·refine (step1_yes (fun v0 v1 base W1=>ScrOwn W1 base s v0 v1) a0 a1 _ c0 _ c1 w db sb pb D W hS hI.len (fun W0 hb=>by have:=right4_any s _ _ W0 (hk W0 hb) hsf;rw [hri] at this;exact this) (fun W0 hb=>(clone4_any s _ _ W0 (hk W0 hb) hsf).mono fun e W1 ⟨⟨v0,v1,e1,hO⟩,hb1⟩=>?_)).mono fun e W' ⟨b0,b1,m0,d0,m1,d1,base,W1,e1,hb,hbase,e2,hS',hO⟩=>?_
  ·obtain ⟨⟨x0,y0,z0,_⟩,⟨x1,y1,z1,_⟩⟩:=own_is hO
   subst z0;subst z1
   exact ⟨x0,_,y0,x1,_,y1,e1,hb1,hO⟩
  ·subst e2
   refine ⟨0,_,e1,hS',?_,.inr ⟨rfl,?_⟩⟩
   ·rw [heap_setCell_other _ ⟨db,1,none⟩ rb _ (fun e=>hne e)]
    exact rb_go hr hb hne
   ·refine ⟨by simp [hI.len],fun _=>⟨hri,_,_,base,?_,?_,by omega,own_set (own_set hO (by omega)) (by omega)⟩,fun h=>by omega,fun h=>by omega,fun h=>by omega,fun h=>by omega,fun h=>by omega,fun h=>by omega,fun _=>?_⟩
    ·rw [List.getElem?_set_ne (by omega),List.getElem?_set_self (by rw [hI.len];omega)]
    ·rw [List.getElem?_set_self (by simp [hI.len])]
    ·rw [List.getElem?_set_ne (by omega),List.getElem?_set_ne (by omega)];exact hI.z7 (by omega)
 ·have hfr:s.right=false:=by simpa using hri
  refine (step1_no a0 a1 _ c0 _ c1 w db sb pb D W hS (fun W0 hb=>by have:=right4_any s _ _ W0 (hk W0 hb) hsf;rw [hfr] at this;exact this)).mono fun e W' ⟨e1,hb⟩=>⟨30,D,e1,hS.off hb,(hb.block _ (heap_lt hr)).trans hr,.inl ⟨by omega,by rw [ofE,if_neg hri]⟩⟩
theorem go2 (s:Scr)(a0 a1:Option Addr)(c0 c1:Nat)(w:World)(B db sb pb rb:Nat)(D:List Value)(W:World)(hs:ScIs w.cell? s (.slice a0 s.consts.length c0) (.slice a1 s.funcs.length c1))(hsf:s.fits)(hS:St10 w db sb pb (.slice a0 s.consts.length c0) (.slice a1 s.funcs.length c1) D W)(hI:Inv10 s B 1 D W)(hr:W.heap[rb]?=some (.cells zero7 30 (0,0)))(hne:rb≠db)(hdB:db<B)(hB:B≤W.heap.size) :
  Calls Tryz.prog 44 #[.pointer (some ⟨sb,0,none⟩),.pointer (some ⟨pb,0,none⟩)] W (GoEnd s w B db sb pb rb (.slice a0 s.consts.length c0) (.slice a1 s.funcs.length c1) 1):=by
 have hk:∀ W0,Below W.heap.size W W0→ScIs W0.cell? s (.slice a0 s.consts.length c0) (.slice a1 s.funcs.length c1):=fun W0 hb=>hs.keep (below_keep (hS.low.trans (hb.mono hS.low.size)))
 obtain ⟨hri,_⟩:=hI.p1 (by omega)
 refine (step2_gen (fun a n _ W1=>n=(allS s).2.length∧RowN B W1 a (allS s).2) (allS s).1 a0 a1 _ c0 _ c1 w db sb pb D W hS hI.len (fun W0 hb=>(all7_new s _ _ W0 (hk W0 hb) hsf).mono fun e W1 ⟨⟨a,c,e1,h1,h2⟩,h3⟩=>⟨a,_,c,e1,h2,rfl,h1,fun g hg=>?_⟩)).mono fun e W' ⟨a,n,c,W1,e1,hb,e2,hS',hn,hR⟩=>?_
 ·subst hg
  have:=h3 g _ _ _ e1
  have:=hb.size
  omega
 ·subst e2;subst hn
  refine ⟨_,_,e1,hS',rb_go hr hb hne,?_⟩
  by_cases h0:(allS s).1=0
  ·exact .inr ⟨h0,by simp [hI.len],fun _=>(hI.p1 (by omega)).go hb hdB (by omega) (by omega),fun _=>⟨h0,a,c,List.getElem?_set_self (by rw [hI.len];omega),hR.set hdB⟩,fun h=>by omega,fun h=>by omega,fun h=>by omega,fun h=>by omega,fun h=>by omega,fun _=>by rw [List.getElem?_set_ne (by omega)];exact hI.z7 (by omega)⟩
  ·exact .inl ⟨h0,by rw [ofE,if_pos hri,if_neg h0]⟩
theorem go3 (s:Scr)(a0 a1:Option Addr)(c0 c1:Nat)(w:World)(B db sb pb rb:Nat)(D:List Value)(W:World)(hs:ScIs w.cell? s (.slice a0 s.consts.length c0) (.slice a1 s.funcs.length c1))(hsf:s.fits)(hS:St10 w db sb pb (.slice a0 s.consts.length c0) (.slice a1 s.funcs.length c1) D W)(hI:Inv10 s B 2 D W)(hr:W.heap[rb]?=some (.cells zero7 30 (0,0)))(hne:rb≠db)(hdB:db<B)(hB:B≤W.heap.size) :
  Calls Tryz.prog 46 #[.pointer (some ⟨sb,0,none⟩),.pointer (some ⟨pb,0,none⟩)] W (GoEnd s w B db sb pb rb (.slice a0 s.consts.length c0) (.slice a1 s.funcs.length c1) 2):=by
 have hk:∀ W0,Below W.heap.size W W0→ScIs W0.cell? s (.slice a0 s.consts.length c0) (.slice a1 s.funcs.length c1):=fun W0 hb=>hs.keep (below_keep (hS.low.trans (hb.mono hS.low.size)))
 obtain ⟨hri,_⟩:=hI.p1 (by omega)
 obtain ⟨ha,_⟩:=hI.p2 (by omega)
 have hA:∀ W0,Below W.heap.size W W0→Calls Tryz.prog 47 #[.agg #[.slice a0 s.consts.length c0,.slice a1 s.funcs.length c1]] W0 fun e W1=>∃ a n c,e=.returned (.tuple #[.slice a n c,.int .i64 (if (ordS s.funcs.length (gF s)).isNone=true then 34 else 0)])∧Below W0.heap.size W0 W1∧∀ o,ordS s.funcs.length (gF s)=some o→n=o.length∧RowN B W1 a (rowI o):=fun W0 hb=>(order_new s _ _ W0 (hk W0 hb) hsf).mono fun e W1 ⟨⟨h1,h2⟩,h3⟩=>by
  rw [if_pos hri] at h2
  cases ho:ordS s.funcs.length (gF s) with
  | none =>
   rw [ho] at h2
   exact ⟨none,0,0,h2,h1,fun o h=>by cases h⟩
  | some o =>
   rw [ho] at h2
   obtain ⟨la,lc,e1,h4⟩:=h2
   refine ⟨la,_,lc,e1,h1,fun o' h=>?_⟩
   cases h
   refine ⟨rfl,h4,fun g hg=>?_⟩
   subst hg
   have:=h3 g _ _ _ e1
   have:=hb.size
   omega
 refine (step3_gen (fun a n _ W1=>∀ o,ordS s.funcs.length (gF s)=some o→n=o.length∧RowN B W1 a (rowI o)) _ a0 a1 _ c0 _ c1 w db sb pb D W hS hI.len hA).mono fun e W' ⟨a,n,c,W1,e1,hb,e2,hS',hP⟩=>?_
 subst e2
 refine ⟨_,_,e1,hS',rb_go hr hb hne,?_⟩
 cases ho:ordS s.funcs.length (gF s) with
 | none=>exact .inl ⟨by simp,by rw [ofE,if_pos hri,if_pos ha,ho];simp⟩
 | some o =>
  obtain ⟨hn,hR⟩:=hP o ho
  subst hn
  exact .inr ⟨by simp,by simp [hI.len],fun _=>(hI.p1 (by omega)).go hb hdB (by omega) (by omega),fun _=>(hI.p2 (by omega)).go hb hdB (by omega),fun _=>⟨o,a,c,ho,List.getElem?_set_self (by rw [hI.len];omega),hR.set hdB⟩,fun h=>by omega,fun h=>by omega,fun h=>by omega,fun h=>by omega,fun _=>by rw [List.getElem?_set_ne (by omega)];exact hI.z7 (by omega)⟩
theorem go4 (s:Scr)(a0 a1:Option Addr)(c0 c1:Nat)(w:World)(B db sb pb rb:Nat)(D:List Value)(W:World)(hs:ScIs w.cell? s (.slice a0 s.consts.length c0) (.slice a1 s.funcs.length c1))(hsf:s.fits)(hS:St10 w db sb pb (.slice a0 s.consts.length c0) (.slice a1 s.funcs.length c1) D W)(hI:Inv10 s B 3 D W)(hr:W.heap[rb]?=some (.cells zero7 30 (0,0)))(hne:rb≠db)(hdB:db<B)(_hB:B≤W.heap.size) :
  Calls Tryz.prog 48 #[.pointer (some ⟨sb,0,none⟩),.pointer (some ⟨pb,0,none⟩)] W (GoEnd s w B db sb pb rb (.slice a0 s.consts.length c0) (.slice a1 s.funcs.length c1) 3):=by
 have hk:∀ W0,Below W.heap.size W W0→ScIs W0.cell? s (.slice a0 s.consts.length c0) (.slice a1 s.funcs.length c1):=fun W0 hb=>hs.keep (below_keep (hS.low.trans (hb.mono hS.low.size)))
 obtain ⟨hri,_⟩:=hI.p1 (by omega)
 obtain ⟨ha,_⟩:=hI.p2 (by omega)
 obtain ⟨o,_,_,ho,_⟩:=hI.p3 (by omega)
 refine (step4_gen (fun n _=>n=(totS s).2) (totS s).1 a0 a1 _ c0 _ c1 w db sb pb D W hS hI.len (fun W0 hb=>(total9_any s _ _ W0 (hk W0 hb) hsf).mono fun e W1 ⟨h1,h2⟩=>⟨_,h1,h2,rfl⟩)).mono fun e W' ⟨n,W1,e1,hb,e2,hS',hn⟩=>?_
 subst e2;subst hn
 refine ⟨_,_,e1,hS',rb_go hr hb hne,?_⟩
 by_cases h0:(totS s).1=0
 ·exact .inr ⟨h0,by simp [hI.len],fun _=>(hI.p1 (by omega)).go hb hdB (by omega) (by omega),fun _=>(hI.p2 (by omega)).go hb hdB (by omega),fun _=>(hI.p3 (by omega)).go hb hdB (by omega),fun _=>⟨h0,List.getElem?_set_self (by rw [hI.len];omega)⟩,fun h=>by omega,fun h=>by omega,fun h=>by omega,fun _=>by rw [List.getElem?_set_ne (by omega)];exact hI.z7 (by omega)⟩
 ·exact .inl ⟨h0,by rw [ofE,if_pos hri,if_pos ha,ho];simp⟩
theorem go5 (s:Scr)(a0 a1:Option Addr)(c0 c1:Nat)(w:World)(B db sb pb rb:Nat)(D:List Value)(W:World)(hs:ScIs w.cell? s (.slice a0 s.consts.length c0) (.slice a1 s.funcs.length c1))(hsf:s.fits)(hS:St10 w db sb pb (.slice a0 s.consts.length c0) (.slice a1 s.funcs.length c1) D W)(hI:Inv10 s B 4 D W)(hr:W.heap[rb]?=some (.cells zero7 30 (0,0)))(hne:rb≠db)(hdB:db<B)(hB:B≤W.heap.size) :
  Calls Tryz.prog 50 #[.pointer (some ⟨sb,0,none⟩),.pointer (some ⟨pb,0,none⟩)] W (GoEnd s w B db sb pb rb (.slice a0 s.consts.length c0) (.slice a1 s.funcs.length c1) 4):=by
 have hk:∀ W0,Below W.heap.size W W0→ScIs W0.cell? s (.slice a0 s.consts.length c0) (.slice a1 s.funcs.length c1):=fun W0 hb=>hs.keep (below_keep (hS.low.trans (hb.mono hS.low.size)))
 obtain ⟨hri,_⟩:=hI.p1 (by omega)
 obtain ⟨o,_,_,ho,_⟩:=hI.p3 (by omega)
 have hA:∀ W0,Below W.heap.size W W0→Calls Tryz.prog 51 #[.agg #[.slice a0 s.consts.length c0,.slice a1 s.funcs.length c1]] W0 fun e W1=>∃ a n c,e=.returned (.tuple #[.slice a n c,.int .i64 0])∧Below W0.heap.size W0 W1∧(n=s.funcs.length∧∃ d,RowN B W1 a (deepL s d)∧DeepIs s.funcs.length (gF s) d):=fun W0 hb=>(deep_new s _ _ W0 (hk W0 hb) hsf).mono fun e W1 ⟨⟨h1,h2⟩,h3⟩=>by
  rw [if_pos hri,ho] at h2
  simp only [Option.isNone_some,Bool.false_eq_true,if_false] at h2
  obtain ⟨la,lc,d,e1,h4,h5,_⟩:=h2
  refine ⟨la,_,lc,e1,h1,rfl,d,⟨h4,fun g hg=>?_⟩,h5⟩
  subst hg
  have:=h3 g _ _ _ e1
  have:=hb.size
  omega
 refine (step5_gen (fun a n _ W1=>n=s.funcs.length∧∃ d,RowN B W1 a (deepL s d)∧DeepIs s.funcs.length (gF s) d) _ a0 a1 _ c0 _ c1 w db sb pb D W hS hI.len hA).mono fun e W' ⟨a,n,c,W1,e1,hb,e2,hS',hn,d,hR,hDI⟩=>?_
 subst e2;subst hn
 exact ⟨_,_,e1,hS',rb_go hr hb hne,.inr ⟨rfl,by simp [hI.len],fun _=>(hI.p1 (by omega)).go hb hdB (by omega) (by omega),fun _=>(hI.p2 (by omega)).go hb hdB (by omega),fun _=>(hI.p3 (by omega)).go hb hdB (by omega),fun _=>(hI.p4 (by omega)).go (by omega),fun _=>⟨a,c,d,List.getElem?_set_self (by rw [hI.len];omega),hR.set hdB,hDI⟩,fun h=>by omega,fun h=>by omega,fun _=>by rw [List.getElem?_set_ne (by omega)];exact hI.z7 (by omega)⟩⟩
theorem go6 (s:Scr)(a0 a1:Option Addr)(c0 c1:Nat)(w:World)(B db sb pb rb:Nat)(D:List Value)(W:World)(hs:ScIs w.cell? s (.slice a0 s.consts.length c0) (.slice a1 s.funcs.length c1))(hsf:s.fits)(hS:St10 w db sb pb (.slice a0 s.consts.length c0) (.slice a1 s.funcs.length c1) D W)(hI:Inv10 s B 5 D W)(hr:W.heap[rb]?=some (.cells zero7 30 (0,0)))(hne:rb≠db)(hdB:db<B)(hB:B≤W.heap.size) :
  Calls Tryz.prog 52 #[.pointer (some ⟨sb,0,none⟩),.pointer (some ⟨pb,0,none⟩)] W (GoEnd s w B db sb pb rb (.slice a0 s.consts.length c0) (.slice a1 s.funcs.length c1) 5):=by
 have hk:∀ W0,Below W.heap.size W W0→ScIs W0.cell? s (.slice a0 s.consts.length c0) (.slice a1 s.funcs.length c1):=fun W0 hb=>hs.keep (below_keep (hS.low.trans (hb.mono hS.low.size)))
 obtain ⟨hri,_⟩:=hI.p1 (by omega)
 have hz:=hI.z7 (by omega)
 have hA:∀ W0,Below W.heap.size W W0→Calls Tryz.prog 53 #[.agg #[.slice a0 s.consts.length c0,.slice a1 s.funcs.length c1]] W0 fun e W1=>∃ a n c,e=.returned (.tuple #[.slice a n c,.int .i64 0])∧Below W0.heap.size W0 W1∧(n=s.funcs.length∧RsAt W1.cell? a (rowsI (graphS s))∧∀ g,a=some g→B≤g.block):=fun W0 hb=>(graph_new s _ _ W0 (hk W0 hb) hsf).mono fun e W1 ⟨⟨h2,h1⟩,h3⟩=>by
  rw [if_pos hri] at h2
  obtain ⟨ga,gc,e1,h4⟩:=h2
  refine ⟨ga,_,gc,e1,h1,rfl,h4,fun g hg=>?_⟩
  subst hg
  have:=h3 g _ _ _ e1
  have:=hb.size
  omega
 refine (step6_gen (fun a n _ W1=>n=s.funcs.length∧RsAt W1.cell? a (rowsI (graphS s))∧∀ g,a=some g→B≤g.block) _ a0 a1 _ c0 _ c1 w db sb pb D W hS hI.len hA).mono fun e W' ⟨a,n,c,W1,e1,hb,e2,hS',hn,hR,hF⟩=>?_
 subst e2;subst hn
 have hu:W1.cell? ⟨db,7,none⟩=some (.slice none 0 0):=(hS.off hb).at hz
 have hR2:RsAt (W1.setCell ⟨db,7,none⟩ (.slice a s.funcs.length c)).cell? a (rowsI (graphS s)):=by
  rcases hR with h | ⟨g,off,e,h⟩
  ·exact .inl h
  ·have:=hF _ e
   simp only at this
   refine .inr ⟨g,off,e,fun j hj=>?_⟩
   obtain ⟨aj,cj,h1,h2⟩:=h j hj
   exact ⟨aj,cj,cell_setCell_other9 h1 (fun e=>by omega),ns_set h2 hu (fun z e=>by cases e)⟩
 exact ⟨_,_,e1,hS',rb_go hr hb hne,.inr ⟨rfl,by simp [hI.len],fun _=>(hI.p1 (by omega)).go hb hdB (by omega) (by omega),fun _=>(hI.p2 (by omega)).go hb hdB (by omega),fun _=>(hI.p3 (by omega)).go hb hdB (by omega),fun _=>(hI.p4 (by omega)).go (by omega),fun _=>(hI.p5 (by omega)).go hb hdB (by omega),fun _=>⟨a,c,List.getElem?_set_self (by rw [hI.len];omega),hR2⟩,fun h=>by omega,fun h=>by omega⟩⟩
theorem go7 (s:Scr)(a0 a1:Option Addr)(c0 c1:Nat)(w:World)(B db sb pb rb:Nat)(D:List Value)(W:World)(hsf:s.fits)(hS:St10 w db sb pb (.slice a0 s.consts.length c0) (.slice a1 s.funcs.length c1) D W)(hI:Inv10 s B 6 D W)(hr:W.heap[rb]?=some (.cells zero7 30 (0,0)))(hne:rb≠db)(hdB:db<B)(hB:B≤W.heap.size) :
  Calls Tryz.prog 54 #[.pointer (some ⟨pb,0,none⟩)] W (GoEnd s w B db sb pb rb (.slice a0 s.consts.length c0) (.slice a1 s.funcs.length c1) 6):=by
 obtain ⟨hri,v0,v1,base,q0,q1,hbase,hO⟩:=hI.p1 (by omega)
 obtain ⟨ha,sa,sc,q3,hRs⟩:=hI.p2 (by omega)
 obtain ⟨o,oa,oc,ho,q5,hRo⟩:=hI.p3 (by omega)
 obtain ⟨ga,gc,q7,hG⟩:=hI.p6 rfl
 obtain ⟨hol,hTo⟩:=ord_told (n:=s.funcs.length) (g:=gF s) ho
 obtain ⟨_,⟨fa,fc,e1,hF⟩⟩:=own_is hO
 subst e1
 obtain ⟨hl,hbd⟩:=all_bounds hri ha
 rw [hl] at q3
 rw [hol] at q5
 refine (step7_gen (fun g W1=>RowN B W1 (some ⟨g,0,none⟩) (roomsS s (allS s).2 o)) s.funcs.length _ _ w db sb pb D W hS hI.len (fun W0 hb=>?_)).mono fun e W' ⟨g,W1,e1,hb,e2,hS',hR⟩=>?_
 ·have hq:=below_keep hb
  have hS0:=hS.off hb
  refine (rooms_any s (allS s).2 o s.funcs.length db fa sa oa ga fc sc oc gc W0 rfl hri hsf hol hTo hl hbd (hS0.at q1) (hS0.at q3) (hS0.at q5) (hS0.at q7) (hF.keep hq) (hRs.1.keep hq) (hRo.1.keep hq) (hG.keep hq)).mono fun e W1 ⟨g,e1,h1,h2,h3⟩=>⟨g,e1,h3,h1,fun g' hg=>?_⟩
  cases hg
  have:=hb.size
  simp only
  omega
 ·subst e2
  exact ⟨_,_,e1,hS',rb_go hr hb hne,.inr ⟨rfl,by simp [hI.len],fun _=>(hI.p1 (by omega)).go hb hdB (by omega) (by omega),fun _=>(hI.p2 (by omega)).go hb hdB (by omega),fun _=>(hI.p3 (by omega)).go hb hdB (by omega),fun _=>(hI.p4 (by omega)).go (by omega),fun _=>(hI.p5 (by omega)).go hb hdB (by omega),fun h=>by omega,fun _=>⟨g,o,ho,List.getElem?_set_self (by rw [hI.len];omega),hR.set hdB⟩,fun h=>by omega⟩⟩
end Go.Proofs.YtpmlnkjamhelnaaGreat
