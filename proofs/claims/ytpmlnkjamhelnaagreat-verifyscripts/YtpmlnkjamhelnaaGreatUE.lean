/- The document's open blocks of layer 7, and its must. The document's Check of layer 7: what a round makes of the open blocks; what is kept on the way. -/
import Derived.Test.YtpmlnkjamhelnaaGreatORn
import Derived.Test.YtpmlnkjamhelnaaGreatST
import Derived.Test.YtpmlnkjamhelnaaGreatTS
import Derived.Deep.RegionHeld3
namespace Go.Proofs.YtpmlnkjamhelnaaGreat
open Go.RowKit Go.Shelf
structure DBk where
 at_:Nat
 en:List Int
 th:List Int
 ot:Bool
def DBk.ob (op:Nat→Int)(d:DBk):OB:=⟨d.en,if d.ot=true then d.th else d.en,decide (op d.at_=51)⟩
def DCs (B N:Nat)(W:World)(D:List DBk)(ds:List Value):Prop:=ds.length=D.length*4∧∀ j (h:j<D.length),∃ a1 c1 a2 c2,ds[j*4]?=some (.int .i64 D[j].at_)∧ds[j*4+1]?=some (.slice a1 D[j].en.length c1)∧ds[j*4+2]?=some (.slice a2 D[j].th.length c2)∧ds[j*4+3]?=some (.bool D[j].ot)∧D[j].at_<N∧D[j].en.length≤c1∧NsIn B W a1 D[j].en∧NsIn B W a2 D[j].th∧D[j].en.length≤1000∧D[j].th.length≤1000
theorem DCs.mv {B N:Nat}{W W':World}{D:List DBk}{ds:List Value}(h:DCs B N W D ds)(hm:∀ a ns,NsIn B W a ns→NsIn B W' a ns):DCs B N W' D ds:=⟨h.1,fun j hj=>by
 obtain ⟨a1,c1,a2,c2,h1,h2,h3,h4,h5,h6,h7,h8,h9⟩:=h.2 j hj
 exact ⟨a1,c1,a2,c2,h1,h2,h3,h4,h5,h6,hm _ _ h7,hm _ _ h8,h9⟩⟩
def DAt (N:Nat)(W:World)(b:Nat)(D:List DBk):Prop:=∀ j (h:j<D.length),∃ a1 c1 a2 c2,W.cell? ⟨b,j*4,none⟩=some (.int .i64 D[j].at_)∧W.cell? ⟨b,j*4+1,none⟩=some (.slice a1 D[j].en.length c1)∧W.cell? ⟨b,j*4+2,none⟩=some (.slice a2 D[j].th.length c2)∧W.cell? ⟨b,j*4+3,none⟩=some (.bool D[j].ot)∧D[j].at_<N∧NsAt W.cell? a1 D[j].en∧NsAt W.cell? a2 D[j].th
theorem DCs.at' {B N:Nat}{W:World}{base n b cap:Nat}{D:List DBk}{ds:List Value}(h:DCs B N W D ds)(hr:W.ownsRow base 132 4 (.slice (some ⟨b,0,none⟩) n cap) n ds):DAt N W b D:=by
 obtain ⟨_,_,e,_,_,hx⟩:=row_form hr
 cases e
 rcases hx with ⟨e,_⟩ | ⟨g,e,_,_,hc⟩
 ·cases e
 ·cases e
  intro j hj
  obtain ⟨a1,c1,a2,c2,h1,h2,h3,h4,h5,h6,h7,h8,h9⟩:=h.2 j hj
  exact ⟨a1,c1,a2,c2,hc _ _ h1,hc _ _ h2,hc _ _ h3,hc _ _ h4,h5,h7.at',h8.at'⟩
def mustS (op:Nat→Int)(D:List DBk)(n:Int)(p:List Int):Int :=
 if n=50 then (match (D.map (DBk.ob op)).getLast? with | none=>0 | some b=>alikeS p b.la)
 else (match (lpIx (D.map (DBk.ob op))).bind (fun i=>(D.map (DBk.ob op))[i]?) with | none=>0 | some b=>alikeS p b.en)
def MustEnd (v:Int)(w:World)(e:Ending)(w':World):Prop:=e=.returned (.int .i64 v)∧Below w.heap.size w w'
set_option maxRecDepth 100000 in
set_option maxHeartbeats 2000000 in
theorem must_end (op:Nat→Int)(N:Nat)(M:List DBk)(d:DBk)(A:Int)(p:List Int)(cv:Value)(ob oc m:Nat)(hm:M.length+1=m)(bm:m≤1000)(la:Option Addr)(pl lc:Nat)(hpl:p.length=pl)(bp:pl≤1000)(w:World)(hD:DAt N w ob (M++[d]))(hp:NsAt w.cell? la p) :
  Calls Tryz.prog 91 #[cv,.slice (some ⟨ob,0,none⟩) m oc,.agg #[.int .i64 50,.int .i64 A],.slice la pl lc] w (MustEnd (mustS op (M++[d]) 50 p) w):=by
 have e1:mustS op (M++[d]) 50 p=alikeS p (if d.ot=true then d.th else d.en):=by
  rw [mustS,if_pos rfl,List.map_append]
  simp [DBk.ob]
 rw [e1]
 subst hm
 obtain ⟨a1,c1,a2,c2,h1,h2,h3,h4,h5,h6,h7⟩:=hD M.length (by simp)
 clear h5
 simp only [List.getElem_append_right (Nat.le_refl _),Nat.sub_self,List.getElem_cons_zero] at h1 h2 h3 h4 h6 h7
 have hlt:=World.block_lt_of_cell? w _ h1
 obtain ⟨at_,en,th,ot⟩:=d
 simp only at h1 h2 h3 h4 h6 h7 ⊢
 have HA:Hid (∀ W,Below w.heap.size w W→Calls Tryz.prog 92 #[.slice la pl lc,.slice a1 en.length c1] W fun e w'=>e=.returned (.int .i64 (alikeS p en))∧Hid (Below w.heap.size w w')):=hid7 fun W hb=>(ralike_any la a1 lc c1 pl _ p en hpl rfl (by omega) W (hp.keep (below_keep hb)) (h6.keep (below_keep hb))).mono fun e w' ⟨q1,k,q2⟩=>⟨q1,hid7 (by rw [q2];exact below_draws2 hb k)⟩
 have HB:Hid (∀ W,Below w.heap.size w W→Calls Tryz.prog 92 #[.slice la pl lc,.slice a2 th.length c2] W fun e w'=>e=.returned (.int .i64 (alikeS p th))∧Hid (Below w.heap.size w w')):=hid7 fun W hb=>(ralike_any la a2 lc c2 pl _ p th hpl rfl (by omega) W (hp.keep (below_keep hb)) (h7.keep (below_keep hb))).mono fun e w' ⟨q1,k,q2⟩=>⟨q1,hid7 (by rw [q2];exact below_draws2 hb k)⟩
 clear hD hp h6 h7 e1
 generalize M.length=m at *
 have g1:IntKind.i64.wrap (m:Int)=m:=by rw [IntKind.wrap_i64];omega
 have g2:(0:Int)≤m:=by omega
 have g3:(m:Int)<(m:Int)+1:=by omega
 generalize en.length=el at *
 generalize th.length=tl at *
 cases ot with
 | true =>
  simp only [if_true]
  generalize alikeS p th=R at *
  go_enter Tryz.func91,Tryz.ntmps91
  go_wp2_with (first | (go_at_call 92;refine (HB.out _ (((Below.refl _ w).alloc (Nat.le_refl _) _).alloc (by simp) _)).mono ?_;clear HB;rintro e w4 ⟨rfl,B4⟩) | fail)
  go_ret
  exact ⟨rfl,B4.out⟩
 | false =>
  simp only [Bool.false_eq_true,if_false]
  generalize alikeS p en=R at *
  go_enter Tryz.func91,Tryz.ntmps91
  go_wp2_with (first | (go_at_call 92;refine (HA.out _ (((Below.refl _ w).alloc (Nat.le_refl _) _).alloc (by simp) _)).mono ?_;clear HA;rintro e w4 ⟨rfl,B4⟩) | fail)
  go_ret
  exact ⟨rfl,B4.out⟩
theorem lo_at {op:Nat→Int}{D:List DBk}{k:Nat}(h:k<D.length):(((D.map (DBk.ob op))[k]?).map OB.lo).getD false=decide (op D[k].at_=51):=by
 rw [List.getElem?_map,List.getElem?_eq_getElem h]
 rfl
set_option maxRecDepth 100000 in
set_option maxHeartbeats 2000000 in
theorem must_leave (op:Nat→Int)(cs:List (Int × Int))(hop:∀ j (h:j<cs.length),cs[j].1=op j)(D:List DBk)(A:Int)(p:List Int)(ca:Option Addr)(cc ob oc N m:Nat)(hN:cs.length=N)(hm:D.length=m)(bm:m≤1000)(la:Option Addr)(pl lc:Nat)(hpl:p.length=pl)(bp:pl≤1000)(w:World)(hC:IsAt w.cell? ca cs)(hD:DAt N w ob D)(hp:NsAt w.cell? la p) :
  Calls Tryz.prog 91 #[.slice ca N cc,.slice (some ⟨ob,0,none⟩) m oc,.agg #[.int .i64 52,.int .i64 A],.slice la pl lc] w (MustEnd (mustS op D 52 p) w):=by
 obtain ⟨R,hR⟩:∃ R,R=mustS op D 52 p:=⟨_,rfl⟩
 rw [← hR]
 have HR:Hid (∀ k,fstIx (fun i=>((D.map (DBk.ob op))[i]?.map OB.lo).getD false) m=fstIx (fun i=>((D.map (DBk.ob op))[i]?.map OB.lo).getD false) k→(k=0→R=0)∧∀ q,k=q+1→∀ hq:q<D.length,op D[q].at_=51→R=alikeS p D[q].en):=hid7 fun k hk=>by
  have e0:lpIx (D.map (DBk.ob op))=fstIx (fun i=>((D.map (DBk.ob op))[i]?.map OB.lo).getD false) k:=by rw [lpIx,List.length_map,hm,hk]
  have e1:R=(match (fstIx (fun i=>((D.map (DBk.ob op))[i]?.map OB.lo).getD false) k).bind (fun i=>(D.map (DBk.ob op))[i]?) with | none=>0 | some b=>alikeS p b.en):=by
   rw [hR,mustS,if_neg (by decide),e0]
  refine ⟨fun h0=>?_,fun q hq hql h51=>?_⟩
  ·subst h0
   rw [e1]
   rfl
  ·subst hq
   rw [e1,fstIx,lo_at hql,h51]
   simp [hql,DBk.ob]
 clear hR
 go_enter Tryz.func91,Tryz.ntmps91
 go_wp2
 have b1:=(Below.refl _ w).alloc (Nat.le_refl _) (.cells #[.int .i64 52,.int .i64 A] 74)
 have HS:=hid7 (And.intro hD (And.intro hC (And.intro hp (And.intro b1 hop))))
 generalize w.alloc (.cells #[.int .i64 52,.int .i64 A] 74)=w1 at *
 clear hD hC hp b1 hop
 go_loopw [10] (fun iv wr=>∃ k t:Nat,k≤m∧iv=.int .i64 ((k:Int) - 1)∧Hid (fstIx (fun i=>((D.map (DBk.ob op))[i]?.map OB.lo).getD false) m=fstIx (fun i=>((D.map (DBk.ob op))[i]?.map OB.lo).getD false) k)∧wr=w1.drewN t) (fun iv _=>(intOf iv+1).toNat)
 case atStart=>exact ⟨m,0,Nat.le_refl _,by go_num,hid7 rfl,rfl⟩
 case round =>
  obtain ⟨k,t,hk,rfl,hf,rfl⟩:=hrel
  cases k with
  | zero =>
   have HE:=hid7 ((HR.out 0 hf.out).1 rfl)
   go_wp2
   go_ret
   exact ⟨by rw [HE.out];rfl,below_draws2 HS.out.2.2.2.1 t⟩
  | succ q =>
   have hql:q<D.length:=by omega
   have e1:((q+1:Nat):Int) - 1=q:=by omega
   rw [e1]
   obtain ⟨a1,c1,a2,c2,h1,h2,h3,h4,h5,h6,h7⟩:=HS.out.1 q hql
   have hatl:D[q].at_<cs.length:=by omega
   obtain ⟨cb,co,rfl,hcc⟩:∃ cb co,ca=some ⟨cb,co,none⟩∧w.cell? ⟨cb,co+D[q].at_*2,none⟩=some (.int .i64 (op D[q].at_)):=by
    rcases HS.out.2.1 with h0 | ⟨b,off,e,h⟩
    ·rw [h0] at hatl;cases hatl
    ·exact ⟨b,off,e,by rw [(h _ hatl).1,HS.out.2.2.2.2 _ hatl]⟩
   have kk:=below_keep (below_draws2 HS.out.2.2.2.1 t)
   have d1:=kk _ _ h1
   have d2:=kk _ _ h2
   have d3:=kk _ _ hcc
   have HN:Hid (op D[q].at_≠51→fstIx (fun i=>((D.map (DBk.ob op))[i]?.map OB.lo).getD false) m=fstIx (fun i=>((D.map (DBk.ob op))[i]?.map OB.lo).getD false) q):=hid7 fun h=>by
    rw [hf.out,fstIx,lo_at hql,if_neg (by simpa using h)]
   have HY:Hid (op D[q].at_=51→R=alikeS p D[q].en):=hid7 ((HR.out _ hf.out).2 q rfl hql)
   have HA:Hid (∀ s,Calls Tryz.prog 92 #[.slice la pl lc,.slice a1 D[q].en.length c1] (w1.drewN s) fun e w'=>e=.returned (.int .i64 (alikeS p D[q].en))∧Hid (Below w.heap.size w w')):=hid7 fun s=>(ralike_any la a1 lc c1 pl _ p D[q].en hpl rfl (by omega) _ (HS.out.2.2.1.keep (below_keep (below_draws2 HS.out.2.2.2.1 s))) (h6.keep (below_keep (below_draws2 HS.out.2.2.2.1 s)))).mono fun e w' ⟨q1,k,q2⟩=>⟨q1,hid7 (by rw [q2];exact below_draws2 (below_draws2 HS.out.2.2.2.1 s) k)⟩
   have hatN:(D[q].at_:Int)<N:=by omega
   have hat0:(0:Int)≤D[q].at_:=by omega
   have hqm:(q:Int)<m:=by omega
   have hq0:(0:Int)≤q:=by omega
   generalize D[q].at_=at_ at *
   generalize D[q].en=en at *
   generalize hel:en.length=el at *
   clear h1 h2 h3 h4 h5 h6 h7 hcc kk hf hel hatl
   generalize op at_=o at *
   by_cases ho:o=51
   ·subst ho
    have HY2:=hid7 (HY.out rfl)
    generalize alikeS p en=S at *
    clear HY
    go_wp2_with (first | (go_at_call 92;refine (HA.out t).mono ?_;clear HA;rintro e w4 ⟨rfl,B4⟩) | fail)
    go_ret
    exact ⟨by rw [HY2.out];rfl,B4.out⟩
   ·have hob:(o == 51)=false:=by simpa using ho
    have HN2:=hid7 (HN.out ho)
    clear HA HY HN
    go_wp2
    exact ⟨⟨q,_,by omega,by go_num,HN2,rfl⟩,by simp [intOf]⟩
def dTurn (n:Int)(k:Nat)(q:List Int)(D:List DBk):List Int × List DBk :=
 if n=48∨n=51 then (q,D++[⟨k,q,[],false⟩])
 else if n=49 then (match D.getLast? with | none=>(q,D) | some d=>(d.en,D.dropLast++[⟨d.at_,d.en,q,true⟩]))
 else if n=50 then (q,D.dropLast) else (q,D)
def dMust (op:Nat→Int)(n:Int)(q:List Int)(D:List DBk):Int:=if n=50∨n=52 then mustS op D n q else 0
theorem doc_turn {op:Nat→Int}{n:Int}{k:Nat}(hk:op k=n)(q:List Int)(D:List DBk):(turnW n q (D.map (DBk.ob op))).1=dMust op n q D∧(turnW n q (D.map (DBk.ob op))).2=((dTurn n k q D).1,(dTurn n k q D).2.map (DBk.ob op)):=by
 unfold turnW dTurn dMust
 by_cases h1:n=48∨n=51
 ·rw [if_pos h1,if_pos h1,if_neg (by omega)]
  refine ⟨rfl,?_⟩
  simp [DBk.ob,hk]
 rw [if_neg h1,if_neg h1]
 by_cases h2:n=49
 ·rw [if_pos h2,if_pos h2,if_neg (by omega)]
  rcases List.eq_nil_or_concat D with rfl | ⟨M,d,rfl⟩
  ·exact ⟨rfl,rfl⟩
  ·rw [List.concat_eq_append]
   simp [DBk.ob]
 rw [if_neg h2,if_neg h2]
 by_cases h3:n=50
 ·rw [if_pos h3,if_pos h3,if_pos (.inl h3),mustS,if_pos h3]
  cases hl:(D.map (DBk.ob op)).getLast? with
  | none =>
   have:D=[]:=by simpa using hl
   subst this
   exact ⟨rfl,rfl⟩
  | some b=>exact ⟨rfl,by simp [List.map_dropLast]⟩
 rw [if_neg h3,if_neg h3]
 by_cases h4:n=52
 ·rw [if_pos h4,if_pos (.inr h4),mustS,if_neg h3]
  cases (lpIx (D.map (DBk.ob op))).bind (fun i=>(D.map (DBk.ob op))[i]?) with
  | none=>exact ⟨rfl,rfl⟩
  | some b=>exact ⟨rfl,rfl⟩
 ·rw [if_neg h4,if_neg (by omega)]
  exact ⟨rfl,rfl⟩
theorem doc_pass {fs:List Fn}{sl:List Int}{op:Nat→Int}{x:Int × Int}{k:Nat}(hk:op k=x.1)(p:List Int)(D:List DBk) :
  passW fs sl x p (D.map (DBk.ob op))=if (stepW fs sl x p).1≠0 then ((stepW fs sl x p).1,(stepW fs sl x p).2,D.map (DBk.ob op))
   else if dMust op x.1 (stepW fs sl x p).2 D≠0 then (dMust op x.1 (stepW fs sl x p).2 D,(dTurn x.1 k (stepW fs sl x p).2 D).1,(dTurn x.1 k (stepW fs sl x p).2 D).2.map (DBk.ob op))
   else if 32<(dTurn x.1 k (stepW fs sl x p).2 D).1.length then (32,(dTurn x.1 k (stepW fs sl x p).2 D).1,(dTurn x.1 k (stepW fs sl x p).2 D).2.map (DBk.ob op))
   else (0,(dTurn x.1 k (stepW fs sl x p).2 D).1,(dTurn x.1 k (stepW fs sl x p).2 D).2.map (DBk.ob op)):=by
 obtain ⟨e1,e2⟩:=doc_turn hk (stepW fs sl x p).2 D
 unfold passW
 by_cases h:(stepW fs sl x p).1≠0
 ·rw [if_pos h,if_pos h]
 rw [if_neg h,if_neg h,e1,e2]
 by_cases h2:dMust op x.1 (stepW fs sl x p).2 D≠0
 ·rw [if_pos h2,if_pos h2,← e1,← e2]
 rw [if_neg h2,if_neg h2]
def Md (W W':World):Prop:=W.heap.size≤W'.heap.size∧∀ (k:Nat) (cur:Array Value) (t:TypeId) (z:Nat × Nat),t≠28→t≠132→W.heap[k]?=some (.cells cur t z)→W'.heap[k]?=some (.cells cur t z)
theorem Md.trans {A B C:World}(h:Md A B)(g:Md B C):Md A C:=⟨Nat.le_trans h.1 g.1,fun k cur t z h1 h2 hk=>g.2 k cur t z h1 h2 (h.2 k cur t z h1 h2 hk)⟩
theorem Md.step {W W':World}{base n size:Nat}{e:TypeId}{v v':Value}{xs:List Value}(hr:W.ownsRow base e size v n xs)(hs:Step W v W' v')(he:e=28∨e=132):Md W W':=by
 refine ⟨hs.1.size,fun k cur t z h1 h2 hk=>(hs.1.block k (blk_lt hk) fun h=>?_).trans hk⟩
 rcases hr.2 with ⟨rfl,_⟩ | ⟨g,cap,cur',rfl,_,hh,_⟩
 ·cases h
 ·cases h
  rw [hk] at hh
  cases hh
  rcases he with he | he
  ·exact h1 he
  ·exact h2 he
theorem Md.set {W:World}{b o:Nat}{cs:Array Value}{z:Nat × Nat}{u:Value}(hb:W.heap[b]?=some (.cells cs 132 z)):Md W (W.setCell ⟨b,o,none⟩ u):=by
 refine ⟨by simp,fun k cur t z' h1 h2 hk=>?_⟩
 rw [Below.heap_setCell W ⟨b,o,none⟩ u k (fun e=>?_)]
 ·exact hk
 ·have e':k=b:=e
  rw [e',hb] at hk
  cases hk
  exact h2 rfl
theorem NsIn.md {B:Nat}{W W':World}{a:Option Addr}{ns:List Int}(h:NsIn B W a ns)(m:Md W W'):NsIn B W' a ns:=by
 rcases h with h | ⟨b,off,cur,e,hB,hb,hc⟩
 ·exact .inl h
 ·have hb':=m.2 b cur 3 (0,0) (by decide) (by decide) hb
  exact .inr ⟨b,off,cur,e,hB,hb',fun j hj=>(cell_heap7 (hb'.trans hb.symm)).trans (hc j hj)⟩
theorem row_set {w:World}{base n size g cap:Nat}{e:TypeId}{xs:List Value}(h:w.ownsRow base e size (.slice (some ⟨g,0,none⟩) n cap) n xs)(o:Nat)(u:Value):(w.setCell ⟨g,o,none⟩ u).ownsRow base e size (.slice (some ⟨g,0,none⟩) n cap) n (xs.set o u):=by
 refine ⟨by rw [List.length_set];exact h.1,?_⟩
 rcases h.2 with ⟨e,_⟩ | ⟨g',cap',cur,e,hg,hh,h1,h2,h3,h4⟩
 ·cases e
 ·cases e
  refine .inr ⟨g,cap,cur.setIfInBounds o u,rfl,hg,?_,h1,h2,by simpa using h3,?_⟩
  ·simp [World.setCell,Array.getElem?_modify,hh]
  ·rw [Array.toList_setIfInBounds,List.take_set,h4]
theorem row_step {w w':World}{base base' n n' size size':Nat}{e e':TypeId}{v v' u:Value}{xs ys:List Value}(h:w.ownsRow base e size v n xs)(hr:w.ownsRow base' e' size' u n' ys)(hs:Step w u w' v')(hne:e≠e'):w'.ownsRow base e size v n xs:=by
 refine ⟨h.1,?_⟩
 rcases h.2 with h2 | ⟨g,cap,cur,rfl,hg,hh,r⟩
 ·exact .inl h2
 ·refine .inr ⟨g,cap,cur,rfl,hg,?_,r⟩
  rw [hs.1.block g (blk_lt hh) fun q=>?_]
  ·exact hh
  ·rcases hr.2 with ⟨rfl,_⟩ | ⟨g',cap',cur',rfl,_,hh',_⟩
   ·cases q
   ·cases q
    rw [hh] at hh'
    cases hh'
    exact hne rfl
theorem elemN_dbk:ElemN Tryz.prog 128 132 4 64:=by
 refine ⟨Tryz.underlying128,?_,by decide⟩
 obtain ⟨i,hi,h1,h2,h3⟩:=info_parts (show (Tryz.prog.info? 132).map (fun i=>(i.zero,i.size,i.bytes))=some (some (.agg #[.int .i64 0,.slice none 0 0,.slice none 0 0,.bool false]),4,64) by kernel_rfl)
 exact ⟨i,_,hi,h1,h2,h3,rfl⟩
theorem DCs.snoc {B N:Nat}{W:World}{D:List DBk}{ds:List Value}{d:DBk}{a1 a2:Option Addr}{c1 c2:Nat}(h:DCs B N W D ds)(h1:d.at_<N)(h2:d.en.length≤c1)(h3:NsIn B W a1 d.en)(h4:NsIn B W a2 d.th)(h5:d.en.length≤1000)(h6:d.th.length≤1000):DCs B N W (D++[d]) (ds++[.int .i64 d.at_,.slice a1 d.en.length c1,.slice a2 d.th.length c2,.bool d.ot]):=by
 refine ⟨by simp [h.1];omega,fun j hj=>?_⟩
 have hx:=h.1
 rcases Nat.lt_or_ge j D.length with hlt | hge
 ·obtain ⟨a1',c1',a2',c2',q0,q1,q2,q3,q4⟩:=h.2 j hlt
  rw [List.getElem_append_left hlt]
  refine ⟨a1',c1',a2',c2',?_,?_,?_,?_,q4⟩
  all_goals (rw [List.getElem?_append_left (by omega)];assumption)
 ·obtain rfl:j=D.length:=by simp at hj;omega
  rw [List.getElem_append_right (Nat.le_refl _)]
  simp only [Nat.sub_self,List.getElem_cons_zero]
  refine ⟨a1,c1,a2,c2,?_,?_,?_,?_,h1,h2,h3,h4,h5,h6⟩
  all_goals
   rw [List.getElem?_append_right (by omega),hx]
   simp
theorem DCs.pop {B N:Nat}{W:World}{D:List DBk}{ds:List Value}{d:DBk}(h:DCs B N W (D++[d]) ds):DCs B N W D (ds.take (D.length*4)):=by
 have hx:=h.1
 rw [List.length_append,List.length_singleton] at hx
 refine ⟨by rw [List.length_take];omega,fun j hj=>?_⟩
 obtain ⟨a1',c1',a2',c2',q0,q1,q2,q3,q4⟩:=h.2 j (by simp;omega)
 rw [List.getElem_append_left hj] at q0 q1 q2 q3 q4
 refine ⟨a1',c1',a2',c2',?_,?_,?_,?_,q4⟩
 all_goals (rw [List.getElem?_take_of_lt (by omega)];assumption)
theorem row_cut {w:World}{base n m size g cap:Nat}{e:TypeId}{xs:List Value}(h:w.ownsRow base e size (.slice (some ⟨g,0,none⟩) n cap) n xs)(hm:m≤n):w.ownsRow base e size (.slice (some ⟨g,0,none⟩) m cap) m (xs.take (m*size)):=by
 have hl:=h.1
 have hms:m*size≤n*size:=Nat.mul_le_mul_right _ hm
 refine ⟨by rw [List.length_take];omega,?_⟩
 rcases h.2 with ⟨e,_⟩ | ⟨g',cap',cur,e,hg,hh,h1,h2,h3,h4⟩
 ·cases e
 ·cases e
  refine .inr ⟨g,cap,cur,rfl,hg,hh,by omega,h2,h3,?_⟩
  rw [← h4,List.take_take,Nat.min_eq_left hms]
theorem DCs.els {B N:Nat}{W:World}{D:List DBk}{ds:List Value}{d:DBk}{q:List Int}{qa:Option Addr}{qc:Nat}(h:DCs B N W (D++[d]) ds)(hq:NsIn B W qa q)(bq:q.length≤1000):DCs B N W (D++[⟨d.at_,d.en,q,true⟩]) ((ds.set (D.length*4+2) (.slice qa q.length qc)).set (D.length*4+3) (.bool true)):=by
 have hx:=h.1
 rw [List.length_append,List.length_singleton] at hx
 refine ⟨by simp [hx],fun j hj=>?_⟩
 rw [List.length_append,List.length_singleton] at hj
 obtain ⟨a1',c1',a2',c2',q0,q1,q2,q3,q4,q5,q6,q7,q8,q9⟩:=h.2 j (by simp;omega)
 rcases Nat.lt_or_ge j D.length with hlt | hge
 ·rw [List.getElem_append_left hlt] at q0 q1 q2 q3 q4 q5 q6 q7 q8 q9
  rw [List.getElem_append_left hlt]
  refine ⟨a1',c1',a2',c2',?_,?_,?_,?_,q4,q5,q6,q7,q8,q9⟩
  all_goals (rw [List.getElem?_set_ne (by omega),List.getElem?_set_ne (by omega)];assumption)
 ·obtain rfl:j=D.length:=by omega
  rw [List.getElem_append_right (Nat.le_refl _)] at q0 q1 q2 q3 q4 q5 q6 q7 q8 q9
  rw [List.getElem_append_right (Nat.le_refl _)]
  simp only [Nat.sub_self,List.getElem_cons_zero] at q0 q1 q2 q3 q4 q5 q6 q7 q8 q9 ⊢
  refine ⟨a1',c1',qa,qc,?_,?_,?_,?_,q4,q5,q6,hq,q8,bq⟩
  ·rw [List.getElem?_set_ne (by omega),List.getElem?_set_ne (by omega)];exact q0
  ·rw [List.getElem?_set_ne (by omega),List.getElem?_set_ne (by omega)];exact q1
  ·rw [List.getElem?_set_ne (by omega),List.getElem?_set_self (by omega)]
  ·rw [List.getElem?_set_self (by simp;omega)]
structure DM (N B:Nat)(W4:World)(av ov:Value)(p:List Int)(D:List DBk)(R:List (List Int))(vs ds:List Value)(la:Option Addr)(lc:Nat)(W:World):Prop where
 nl:NsIn B W la p
 cap:p.length≤lc
 row:W.ownsRow B 28 1 av R.length vs
 rw':RwI B W vs R
 orow:W.ownsRow B 132 4 ov D.length ds
 dcs:DCs B N W D ds
 bel:Below B W4 W
 siz:B≤W.heap.size
theorem DM.below {N B:Nat}{W4:World}{av ov:Value}{p:List Int}{D:List DBk}{R:List (List Int)}{vs ds:List Value}{la:Option Addr}{lc:Nat}{W W':World}(h:DM N B W4 av ov p D R vs ds la lc W)(hb:Below W.heap.size W W'):DM N B W4 av ov p D R vs ds la lc W' :=
 ⟨h.nl.below hb,h.cap,row_below2 h.row hb,h.rw'.mv fun _ _ q=>q.below hb,row_below2 h.orow hb,h.dcs.mv fun _ _ q=>q.below hb,h.bel.trans (hb.mono h.siz),Nat.le_trans h.siz hb.size⟩
theorem DM.stack {N B:Nat}{W4:World}{av ov:Value}{p q:List Int}{D:List DBk}{R:List (List Int)}{vs ds:List Value}{la qa:Option Addr}{lc qc:Nat}{W:World}(h:DM N B W4 av ov p D R vs ds la lc W)(hq:NsIn B W qa q)(hc:q.length≤qc):DM N B W4 av ov q D R vs ds qa qc W:=⟨hq,hc,h.row,h.rw',h.orow,h.dcs,h.bel,h.siz⟩
theorem DM.note {N B:Nat}{W4:World}{av av' ov:Value}{p:List Int}{D:List DBk}{R:List (List Int)}{vs ds:List Value}{la:Option Addr}{lc:Nat}{W W':World}(h:DM N B W4 av ov p D R vs ds la lc W)(hr:W'.ownsRow B 28 1 av' (R.length+1) (vs++[.slice la p.length lc]))(hs:Step W av W' av'):DM N B W4 av' ov p D (R++[p]) (vs++[.slice la p.length lc]) ds la lc W':=by
 have m:=Md.step h.row hs (.inl rfl)
 have b:=hs.below h.siz fun g e=>(h.row.lt g e).1
 refine ⟨h.nl.md m,h.cap,by rw [List.length_append,List.length_singleton];exact hr,?_,row_step h.orow h.row hs (by decide),h.dcs.mv fun _ _ q=>q.md m,h.bel.trans b,Nat.le_trans h.siz hs.1.size⟩
 exact (h.rw'.mv fun _ _ q=>q.md m).snoc h.cap (h.nl.md m)
theorem DM.open' {N B:Nat}{W4:World}{av ov ov':Value}{p:List Int}{D:List DBk}{R:List (List Int)}{vs ds:List Value}{la:Option Addr}{lc k:Nat}{W W':World}(h:DM N B W4 av ov p D R vs ds la lc W)(hk:k<N)(bp:p.length≤1000)(hr:W'.ownsRow B 132 4 ov' (D.length+1) (ds++[.int .i64 k,.slice la p.length lc,.slice none 0 0,.bool false]))(hs:Step W ov W' ov'):DM N B W4 av ov' p (D++[⟨k,p,[],false⟩]) R vs (ds++[.int .i64 k,.slice la p.length lc,.slice none 0 0,.bool false]) la lc W':=by
 have m:=Md.step h.orow hs (.inr rfl)
 have b:=hs.below h.siz fun g e=>(h.orow.lt g e).1
 refine ⟨h.nl.md m,h.cap,row_step h.row h.orow hs (by decide),h.rw'.mv fun _ _ q=>q.md m,by rw [List.length_append,List.length_singleton];exact hr,?_,h.bel.trans b,Nat.le_trans h.siz hs.1.size⟩
 exact (h.dcs.mv fun _ _ q=>q.md m).snoc (d:=⟨k,p,[],false⟩) (a2:=none) (c2:=0) hk h.cap (h.nl.md m) (.inl ⟨rfl,.inl rfl⟩) bp (Nat.zero_le _)
theorem DM.close {N B ob oc:Nat}{W4:World}{av:Value}{p:List Int}{M:List DBk}{d:DBk}{R:List (List Int)}{vs ds:List Value}{la:Option Addr}{lc n:Nat}{W:World}(hn:(M++[d]).length=n)(h:DM N B W4 av (.slice (some ⟨ob,0,none⟩) n oc) p (M++[d]) R vs ds la lc W):DM N B W4 av (.slice (some ⟨ob,0,none⟩) M.length oc) p M R vs (ds.take (M.length*4)) la lc W:=by
 subst hn
 exact ⟨h.nl,h.cap,h.row,h.rw',row_cut h.orow (by simp),h.dcs.pop,h.bel,h.siz⟩
theorem orow_blk {B ob oc n size:Nat}{e:TypeId}{W:World}{ds:List Value}(h:W.ownsRow B e size (.slice (some ⟨ob,0,none⟩) n oc) n ds):B≤ob∧∃ cur,W.heap[ob]?=some (.cells cur e (0,0)):=by
 rcases h.2 with ⟨e,_⟩ | ⟨g,cap,cur,e,hg,hh,_⟩
 ·cases e
 ·cases e
  exact ⟨hg,cur,hh⟩
theorem DM.els {N B ob oc:Nat}{W4:World}{av:Value}{p:List Int}{M:List DBk}{d:DBk}{R:List (List Int)}{vs ds:List Value}{la:Option Addr}{lc n:Nat}{W:World}(hn:(M++[d]).length=n)(h:DM N B W4 av (.slice (some ⟨ob,0,none⟩) n oc) p (M++[d]) R vs ds la lc W)(bp:p.length≤1000) :
  ∃ ea ec,W.cell? ⟨ob,M.length*4+1,none⟩=some (.slice ea d.en.length ec)∧(∃ v,W.cell? ⟨ob,M.length*4+2,none⟩=some v)∧(∃ v,W.cell? ⟨ob,M.length*4+3,none⟩=some v)∧(∀ o,W.frozen? ⟨ob,o,none⟩=false)∧d.en.length≤1000 ∧
   DM N B W4 av (.slice (some ⟨ob,0,none⟩) n oc) d.en (M++[⟨d.at_,d.en,p,true⟩]) R vs ((ds.set (M.length*4+2) (.slice la p.length lc)).set (M.length*4+3) (.bool true)) ea ec ((W.setCell ⟨ob,M.length*4+2,none⟩ (.slice la p.length lc)).setCell ⟨ob,M.length*4+3,none⟩ (.bool true)):=by
 subst hn
 obtain ⟨hB,cur,hcur⟩:=orow_blk h.orow
 obtain ⟨a1,c1,a2,c2,q0,q1,q2,q3,q4,q5,q6,q7,q8,q9⟩:=h.dcs.2 M.length (by simp)
 simp only [List.getElem_append_right (Nat.le_refl _),Nat.sub_self,List.getElem_cons_zero] at q0 q1 q2 q3 q4 q5 q6 q7 q8 q9
 obtain ⟨_,_,e,_,_,hx⟩:=row_form h.orow
 cases e
 rcases hx with ⟨e,_⟩ | ⟨g,e,_,_,hc⟩
 ·cases e
 cases e
 have m1:Md W (W.setCell ⟨ob,M.length*4+2,none⟩ (.slice la p.length lc)):=Md.set hcur
 have hr1:=row_set h.orow (M.length*4+2) (.slice la p.length lc)
 obtain ⟨_,cur1,hcur1⟩:=orow_blk hr1
 have m:=m1.trans (Md.set (o:=M.length*4+3) (u:=.bool true) hcur1)
 have hr2:=row_set hr1 (M.length*4+3) (.bool true)
 have ro:∀ {n':Nat} {v:Value} {ys:List Value},W.ownsRow B 28 1 v n' ys→((W.setCell ⟨ob,M.length*4+2,none⟩ (.slice la p.length lc)).setCell ⟨ob,M.length*4+3,none⟩ (.bool true)).ownsRow B 28 1 v n' ys:=fun hh=>row_other6 (row_other6 hh hcur (by decide)) hcur1 (by decide)
 refine ⟨a1,c1,hc _ _ q1,⟨_,hc _ _ q2⟩,⟨_,hc _ _ q3⟩,fun o=>Lib.frozen_of_heap hcur o,q8,⟨q6.md m,q5,ro h.row,h.rw'.mv fun _ _ q=>q.md m,?_,?_,?_,by simpa using h.siz⟩⟩
 ·have e:(M++[d]).length=(M++[(⟨d.at_,d.en,p,true⟩:DBk)]).length:=by simp
  rw [← e]
  exact hr2
 ·exact (h.dcs.els h.nl bp).mv fun _ _ q=>q.md m
 ·exact (h.bel.setCell (p:=⟨ob,M.length*4+2,none⟩) hB _).setCell (p:=⟨ob,M.length*4+3,none⟩) hB _
structure DI (fs:List Fn)(g:Fn)(A0:Int × List (List Int))(B:Nat)(W4:World)(av ov:Value)(i:Nat)(p:List Int)(D:List DBk)(R:List (List Int))(vs ds:List Value)(la:Option Addr)(lc:Nat)(W:World):Prop where
 m:DM g.code.length B W4 av ov p D R vs ds la lc W
 len:p.length≤32
 obs:OBs (D.map (DBk.ob (opA g.code)))
 goes:Goes (D.map (DBk.ob (opA g.code))) (stk (opA g.code) i)
 cnt:R.length=i
 run:A0=chkFrom fs (g.p++g.l) g.r (g.code.drop i) p (D.map (DBk.ob (opA g.code))) R
end Go.Proofs.YtpmlnkjamhelnaaGreat
namespace Go.Proofs.YtpmlnkjamhelnaaGreat
open Go.RowKit
set_option maxRecDepth 100000 in
set_option maxHeartbeats 1000000 in
theorem rtypes_any (a:Option Addr)(c n:Nat)(ns:List Int)(most:Int)(hn:ns.length=n)(w:World)(ha:NsAt w.cell? a ns)(hl:n≤17592186044416):Calls Tryz.prog 87 #[.slice a n c,.int .i64 most] w fun e w'=>e=.returned (.bool (ns.all kindOk && decide ((n:Int)≤most)))∧w'=w:=by
 go_enter Tryz.func87,Tryz.ntmps87
 go_wp2
 go_loopw [5] (fun i wr=>∃ k:Nat,k≤n∧i=.int .i64 k∧Hid (∀ (j:Nat) (h:j<ns.length),j<k→kindOk ns[j]=true)∧wr=w) (fun i _=>n - (intOf i).toNat)
 case atStart=>exact ⟨0,Nat.zero_le _,rfl,hid (by omega),rfl⟩
 case round =>
  obtain ⟨k,hk,rfl,hr,rfl⟩:=hrel
  by_cases hlt:k<n
  ·rcases ha with h0 | ⟨b0,off0,rfl,hc0⟩
   ·subst h0;simp at hn;omega
   have kl:k<ns.length:=by omega
   have c0:=hc0 k kl
   have HS:Hid (kindOk ns[k]=false→(ns.all kindOk && decide ((n:Int)≤most))=false):=hid fun h=>by rw [all_stop kl h];rfl
   have HT:Hid (kindOk ns[k]=true→∀ (j:Nat) (h:j<ns.length),j<k+1→kindOk ns[j]=true):=hid fun h j h1 hjk=>by
    rcases Nat.lt_or_ge j k with h3 | h3
    ·exact hr.out j h1 h3
    ·obtain rfl:j=k:=by omega
     exact h
   generalize ns[k]=y at c0 HS HT
   clear hc0
   by_cases y1:1≤y
   ·have y1':¬ y<1:=by omega
    have y1d:decide (y<1)=false:=decide_eq_false y1'
    by_cases y3:y≤3
    ·have HE:=hid (HT.out (by simp [kindOk,y1,y3]))
     clear HS HT
     go_wp2
     exact ⟨⟨k+1,by omega,by go_num,HE,by first | rfl | trivial⟩,by simp [intOf];omega⟩
    ·have y3':3<y:=by omega
     have HE:=hid (HS.out (by simp [kindOk,y3]))
     clear HS HT
     go_wp2
     go_ret
     exact ⟨by rw [HE.out];rfl,rfl⟩
   ·have y1':y<1:=by omega
    have y1d:decide (y<1)=true:=decide_eq_true y1'
    have HE:=hid (HS.out (by simp [kindOk,y1]))
    clear HS HT
    go_wp2
    go_ret
    exact ⟨by rw [HE.out];rfl,rfl⟩
  ·have HE:Hid ((ns.all kindOk && decide ((n:Int)≤most))=decide ((n:Int)≤most)):=hid (by
    have:ns.all kindOk=true:=List.all_eq_true.2 fun z hz=>by
     obtain ⟨i,hi,rfl⟩:=List.getElem_of_mem hz
     exact hr.out i hi (by omega)
    rw [this]
    rfl)
   go_wp2
   go_ret
   exact ⟨by rw [HE.out];rfl,rfl⟩
def insR (nc nf:Nat)(sl:Int)(x:Int × Int):Bool:=decide (1≤x.1) && decide (x.1≤53) && (if takesN x.1=1 then true else if takesN x.1=2 then decide (0≤x.2) && decide (x.2<(nc:Int)) else if takesN x.1=3 then decide (0≤x.2) && decide (x.2<sl) else if takesN x.1=4 then decide (1≤x.2) && decide (x.2≤64) else if takesN x.1=5 then decide (0≤x.2) && decide (x.2<(nf:Int)) else decide (x.2=0))
theorem insR_same (nc nf sl:Nat)(x:Int × Int)(h0:-9223372036854775808≤x.2)(h1:x.2≤9223372036854775807):insR nc nf sl x=insOk nc nf sl x:=by
 unfold insR insOk boundsN
 by_cases t1:takesN x.1=1
 ·simp [t1,h0,h1]
 by_cases t2:takesN x.1=2
 ·simp [t2,Int.le_sub_one_iff,Bool.and_assoc]
 by_cases t3:takesN x.1=3
 ·simp [t3,Int.le_sub_one_iff,Bool.and_assoc]
 by_cases t4:takesN x.1=4
 ·simp [t4,Bool.and_assoc]
 by_cases t5:takesN x.1=5
 ·simp [t5,Int.le_sub_one_iff,Bool.and_assoc]
 ·simp only [t1,t2,t3,t4,t5,if_false]
  by_cases h:x.2=0
  ·simp [h]
  ·have:(decide (0≤x.2) && decide (x.2≤0))=false:=by
    cases hh:(decide (0≤x.2) && decide (x.2≤0)) with
    | false=>rfl
    | true=>simp at hh;omega
   rw [decide_eq_false h,Bool.and_assoc (decide (1≤x.1) && decide (x.1≤53)),this]
set_option maxRecDepth 100000 in
set_option maxHeartbeats 1000000 in
theorem rinstr_any (s:Scr)(V0 V1:Value)(sl:Int)(xo xa:Int)(w:World)(hs:ScIs w.cell? s V0 V1)(hsf:s.fits):Calls Tryz.prog 88 #[.agg #[V0,V1],.int .i64 sl,.agg #[.int .i64 xo,.int .i64 xa]] w fun e w'=>e=.returned (.bool (insR s.consts.length s.funcs.length sl (xo,xa)))∧Below w.heap.size w w':=by
 obtain ⟨⟨A0,C0,rfl,_⟩,⟨A1,C1,rfl,_⟩⟩:=hs
 have z0:=hsf.1
 have z1:=hsf.2.1
 clear hsf
 generalize s.consts.length=nc at *
 generalize s.funcs.length=nf at *
 have hT:=fun W=>rtakes4 xo W
 rw [takes_same] at hT
 have HI:Hid (insR nc nf sl (xo,xa)=(decide (1≤xo) && decide (xo≤53) && (if takesN xo=1 then true else if takesN xo=2 then decide (0≤xa) && decide (xa<(nc:Int)) else if takesN xo=3 then decide (0≤xa) && decide (xa<sl) else if takesN xo=4 then decide (1≤xa) && decide (xa≤64) else if takesN xo=5 then decide (0≤xa) && decide (xa<(nf:Int)) else decide (xa=0)))):=hid rfl
 generalize takesN xo=tk at hT HI
 have hb:∀ (X Y:Obj),Below w.heap.size w ((w.alloc X).alloc Y):=fun X Y=>((Below.refl _ w).alloc (Nat.le_refl _) _).alloc (by simp) _
 obtain ⟨W2,hW2⟩:∃ W2,W2=(w.alloc (.cells #[.slice A0 nc C0,.slice A1 nf C1] 27)).alloc (.cells #[.int .i64 xo,.int .i64 xa] 74):=⟨_,rfl⟩
 have hb2:Below w.heap.size w W2:=by rw [hW2];exact hb _ _
 have bA:W2.heap[w.heap.size]?=some (.cells #[.slice A0 nc C0,.slice A1 nf C1] 27 (0,0)):=by rw [hW2,Below.heap_alloc _ _ _ (by simp)];exact heap_alloc_new w _
 have bB:W2.heap[w.heap.size+1]?=some (.cells #[.int .i64 xo,.int .i64 xa] 74 (0,0)):=by
  have:=heap_alloc_new (w.alloc (.cells #[.slice A0 nc C0,.slice A1 nf C1] 27)) (.cells #[.int .i64 xo,.int .i64 xa] 74)
  rw [hW2];simpa using this
 have lA:=(Array.getElem?_eq_some_iff.1 bA).1
 have lB:=(Array.getElem?_eq_some_iff.1 bB).1
 by_cases hok:1≤xo∧xo≤53
 ·obtain ⟨o1,o2⟩:=hok
  rw [decide_eq_true o1,decide_eq_true o2] at HI
  simp only [Bool.and_true,Bool.true_and] at HI
  by_cases t1:tk=1
  ·subst t1
   have HE:Hid (insR nc nf sl (xo,xa)=true):=hid (by rw [HI.out];rfl)
   clear HI
   go_enter Tryz.func88,Tryz.ntmps88
   go_wp2_with (go_at_call 74;refine (hT _).mono ?_;rintro e w3 ⟨rfl,hb3⟩;rw [← hW2] at hb3;have eA:=(hb3.block _ lA).trans bA;have eB:=(hb3.block _ lB).trans bB;have s0:w3.cell? ⟨w.heap.size,0,none⟩=some (.slice A0 nc C0):=(by rw [Lib.cell_of_heap eA];rfl);have s1:w3.cell? ⟨w.heap.size,1,none⟩=some (.slice A1 nf C1):=(by rw [Lib.cell_of_heap eA];rfl);have x1:w3.cell? ⟨w.heap.size+1,1,none⟩=some (.int .i64 xa):=(by rw [Lib.cell_of_heap eB];rfl);have hbw:=hb2.trans (hb3.mono hb2.size);clear hT hW2)
   go_ret
   exact ⟨by rw [HE.out];rfl,hbw⟩
  by_cases t2:tk=2
  ·subst t2
   have HE:Hid (insR nc nf sl (xo,xa)=(decide (0≤xa) && decide (xa<(nc:Int)))):=hid (by rw [HI.out];rfl)
   clear HI
   by_cases q0:0≤xa
   ·rw [decide_eq_true q0,Bool.true_and] at HE
    go_enter Tryz.func88,Tryz.ntmps88
    go_wp2_with (go_at_call 74;refine (hT _).mono ?_;rintro e w3 ⟨rfl,hb3⟩;rw [← hW2] at hb3;have eA:=(hb3.block _ lA).trans bA;have eB:=(hb3.block _ lB).trans bB;have s0:w3.cell? ⟨w.heap.size,0,none⟩=some (.slice A0 nc C0):=(by rw [Lib.cell_of_heap eA];rfl);have s1:w3.cell? ⟨w.heap.size,1,none⟩=some (.slice A1 nf C1):=(by rw [Lib.cell_of_heap eA];rfl);have x1:w3.cell? ⟨w.heap.size+1,1,none⟩=some (.int .i64 xa):=(by rw [Lib.cell_of_heap eB];rfl);have hbw:=hb2.trans (hb3.mono hb2.size);clear hT hW2)
    go_ret
    exact ⟨by rw [HE.out];rfl,hbw⟩
   ·rw [decide_eq_false q0,Bool.false_and] at HE
    go_enter Tryz.func88,Tryz.ntmps88
    go_wp2_with (go_at_call 74;refine (hT _).mono ?_;rintro e w3 ⟨rfl,hb3⟩;rw [← hW2] at hb3;have eA:=(hb3.block _ lA).trans bA;have eB:=(hb3.block _ lB).trans bB;have s0:w3.cell? ⟨w.heap.size,0,none⟩=some (.slice A0 nc C0):=(by rw [Lib.cell_of_heap eA];rfl);have s1:w3.cell? ⟨w.heap.size,1,none⟩=some (.slice A1 nf C1):=(by rw [Lib.cell_of_heap eA];rfl);have x1:w3.cell? ⟨w.heap.size+1,1,none⟩=some (.int .i64 xa):=(by rw [Lib.cell_of_heap eB];rfl);have hbw:=hb2.trans (hb3.mono hb2.size);clear hT hW2)
    go_ret
    exact ⟨by rw [HE.out];rfl,hbw⟩
  by_cases t3:tk=3
  ·subst t3
   have HE:Hid (insR nc nf sl (xo,xa)=(decide (0≤xa) && decide (xa<sl))):=hid (by rw [HI.out];rfl)
   clear HI
   by_cases q0:0≤xa
   ·rw [decide_eq_true q0,Bool.true_and] at HE
    go_enter Tryz.func88,Tryz.ntmps88
    go_wp2_with (go_at_call 74;refine (hT _).mono ?_;rintro e w3 ⟨rfl,hb3⟩;rw [← hW2] at hb3;have eA:=(hb3.block _ lA).trans bA;have eB:=(hb3.block _ lB).trans bB;have s0:w3.cell? ⟨w.heap.size,0,none⟩=some (.slice A0 nc C0):=(by rw [Lib.cell_of_heap eA];rfl);have s1:w3.cell? ⟨w.heap.size,1,none⟩=some (.slice A1 nf C1):=(by rw [Lib.cell_of_heap eA];rfl);have x1:w3.cell? ⟨w.heap.size+1,1,none⟩=some (.int .i64 xa):=(by rw [Lib.cell_of_heap eB];rfl);have hbw:=hb2.trans (hb3.mono hb2.size);clear hT hW2)
    go_ret
    exact ⟨by rw [HE.out];rfl,hbw⟩
   ·rw [decide_eq_false q0,Bool.false_and] at HE
    go_enter Tryz.func88,Tryz.ntmps88
    go_wp2_with (go_at_call 74;refine (hT _).mono ?_;rintro e w3 ⟨rfl,hb3⟩;rw [← hW2] at hb3;have eA:=(hb3.block _ lA).trans bA;have eB:=(hb3.block _ lB).trans bB;have s0:w3.cell? ⟨w.heap.size,0,none⟩=some (.slice A0 nc C0):=(by rw [Lib.cell_of_heap eA];rfl);have s1:w3.cell? ⟨w.heap.size,1,none⟩=some (.slice A1 nf C1):=(by rw [Lib.cell_of_heap eA];rfl);have x1:w3.cell? ⟨w.heap.size+1,1,none⟩=some (.int .i64 xa):=(by rw [Lib.cell_of_heap eB];rfl);have hbw:=hb2.trans (hb3.mono hb2.size);clear hT hW2)
    go_ret
    exact ⟨by rw [HE.out];rfl,hbw⟩
  by_cases t4:tk=4
  ·subst t4
   have HE:Hid (insR nc nf sl (xo,xa)=(decide (1≤xa) && decide (xa≤64))):=hid (by rw [HI.out];rfl)
   clear HI
   by_cases q0:1≤xa
   ·rw [decide_eq_true q0,Bool.true_and] at HE
    go_enter Tryz.func88,Tryz.ntmps88
    go_wp2_with (go_at_call 74;refine (hT _).mono ?_;rintro e w3 ⟨rfl,hb3⟩;rw [← hW2] at hb3;have eA:=(hb3.block _ lA).trans bA;have eB:=(hb3.block _ lB).trans bB;have s0:w3.cell? ⟨w.heap.size,0,none⟩=some (.slice A0 nc C0):=(by rw [Lib.cell_of_heap eA];rfl);have s1:w3.cell? ⟨w.heap.size,1,none⟩=some (.slice A1 nf C1):=(by rw [Lib.cell_of_heap eA];rfl);have x1:w3.cell? ⟨w.heap.size+1,1,none⟩=some (.int .i64 xa):=(by rw [Lib.cell_of_heap eB];rfl);have hbw:=hb2.trans (hb3.mono hb2.size);clear hT hW2)
    go_ret
    exact ⟨by rw [HE.out];rfl,hbw⟩
   ·rw [decide_eq_false q0,Bool.false_and] at HE
    go_enter Tryz.func88,Tryz.ntmps88
    go_wp2_with (go_at_call 74;refine (hT _).mono ?_;rintro e w3 ⟨rfl,hb3⟩;rw [← hW2] at hb3;have eA:=(hb3.block _ lA).trans bA;have eB:=(hb3.block _ lB).trans bB;have s0:w3.cell? ⟨w.heap.size,0,none⟩=some (.slice A0 nc C0):=(by rw [Lib.cell_of_heap eA];rfl);have s1:w3.cell? ⟨w.heap.size,1,none⟩=some (.slice A1 nf C1):=(by rw [Lib.cell_of_heap eA];rfl);have x1:w3.cell? ⟨w.heap.size+1,1,none⟩=some (.int .i64 xa):=(by rw [Lib.cell_of_heap eB];rfl);have hbw:=hb2.trans (hb3.mono hb2.size);clear hT hW2)
    go_ret
    exact ⟨by rw [HE.out];rfl,hbw⟩
  by_cases t5:tk=5
  ·subst t5
   have HE:Hid (insR nc nf sl (xo,xa)=(decide (0≤xa) && decide (xa<(nf:Int)))):=hid (by rw [HI.out];rfl)
   clear HI
   by_cases q0:0≤xa
   ·rw [decide_eq_true q0,Bool.true_and] at HE
    go_enter Tryz.func88,Tryz.ntmps88
    go_wp2_with (go_at_call 74;refine (hT _).mono ?_;rintro e w3 ⟨rfl,hb3⟩;rw [← hW2] at hb3;have eA:=(hb3.block _ lA).trans bA;have eB:=(hb3.block _ lB).trans bB;have s0:w3.cell? ⟨w.heap.size,0,none⟩=some (.slice A0 nc C0):=(by rw [Lib.cell_of_heap eA];rfl);have s1:w3.cell? ⟨w.heap.size,1,none⟩=some (.slice A1 nf C1):=(by rw [Lib.cell_of_heap eA];rfl);have x1:w3.cell? ⟨w.heap.size+1,1,none⟩=some (.int .i64 xa):=(by rw [Lib.cell_of_heap eB];rfl);have hbw:=hb2.trans (hb3.mono hb2.size);clear hT hW2)
    go_ret
    exact ⟨by rw [HE.out];rfl,hbw⟩
   ·rw [decide_eq_false q0,Bool.false_and] at HE
    go_enter Tryz.func88,Tryz.ntmps88
    go_wp2_with (go_at_call 74;refine (hT _).mono ?_;rintro e w3 ⟨rfl,hb3⟩;rw [← hW2] at hb3;have eA:=(hb3.block _ lA).trans bA;have eB:=(hb3.block _ lB).trans bB;have s0:w3.cell? ⟨w.heap.size,0,none⟩=some (.slice A0 nc C0):=(by rw [Lib.cell_of_heap eA];rfl);have s1:w3.cell? ⟨w.heap.size,1,none⟩=some (.slice A1 nf C1):=(by rw [Lib.cell_of_heap eA];rfl);have x1:w3.cell? ⟨w.heap.size+1,1,none⟩=some (.int .i64 xa):=(by rw [Lib.cell_of_heap eB];rfl);have hbw:=hb2.trans (hb3.mono hb2.size);clear hT hW2)
    go_ret
    exact ⟨by rw [HE.out];rfl,hbw⟩
  have HE:Hid (insR nc nf sl (xo,xa)=(xa == 0)):=hid (by
   rw [HI.out,if_neg t1,if_neg t2,if_neg t3,if_neg t4,if_neg t5]
   by_cases h:xa=0 <;> simp [h])
  have e1:(tk == 1)=false:=by simp [t1]
  have e2:(tk == 2)=false:=by simp [t2]
  have e3:(tk == 3)=false:=by simp [t3]
  have e4:(tk == 4)=false:=by simp [t4]
  have e5:(tk == 5)=false:=by simp [t5]
  clear HI
  go_enter Tryz.func88,Tryz.ntmps88
  go_wp2_with (go_at_call 74;refine (hT _).mono ?_;rintro e w3 ⟨rfl,hb3⟩;rw [← hW2] at hb3;have eA:=(hb3.block _ lA).trans bA;have eB:=(hb3.block _ lB).trans bB;have s0:w3.cell? ⟨w.heap.size,0,none⟩=some (.slice A0 nc C0):=(by rw [Lib.cell_of_heap eA];rfl);have s1:w3.cell? ⟨w.heap.size,1,none⟩=some (.slice A1 nf C1):=(by rw [Lib.cell_of_heap eA];rfl);have x1:w3.cell? ⟨w.heap.size+1,1,none⟩=some (.int .i64 xa):=(by rw [Lib.cell_of_heap eB];rfl);have hbw:=hb2.trans (hb3.mono hb2.size);clear hT hW2)
  go_ret
  exact ⟨by rw [HE.out];rfl,hbw⟩
 ·have HE:Hid (insR nc nf sl (xo,xa)=false):=hid (by
   rw [HI.out]
   have:(decide (1≤xo) && decide (xo≤53))=false:=by
    cases h:(decide (1≤xo) && decide (xo≤53)) with
    | false=>rfl
    | true=>simp at h;exact absurd h hok
   rw [this]
   rfl)
  clear HI
  by_cases o1:1≤xo
  ·have o2:53<xo:=by omega
   go_enter Tryz.func88,Tryz.ntmps88
   go_wp2_with fail
   go_ret
   exact ⟨by rw [HE.out];rfl,hb _ _⟩
  ·have o1':xo<1:=by omega
   go_enter Tryz.func88,Tryz.ntmps88
   go_wp2_with fail
   go_ret
   exact ⟨by rw [HE.out];rfl,hb _ _⟩
theorem lists_same (f:Fn):f.lists=((f.p.all kindOk && decide ((f.p.length:Int)≤8)) && (f.r.all kindOk && decide ((f.r.length:Int)≤8)) && (f.l.all kindOk && decide ((f.l.length:Int)≤16)) && decide ((f.p.length:Int)≤16 - (f.l.length:Int)) && decide ((f.code.length:Int)≤256)):=by
 unfold Fn.lists
 generalize f.p.all kindOk=x
 generalize f.r.all kindOk=y
 generalize f.l.all kindOk=z
 by_cases d0:f.p.length≤8
 ·by_cases d1:f.r.length≤8
  ·by_cases d2:f.p.length+f.l.length≤16
   ·by_cases d3:f.code.length≤256
    ·have e0:(f.p.length:Int)≤8:=by omega
     have e1:(f.r.length:Int)≤8:=by omega
     have e2:(f.l.length:Int)≤16:=by omega
     have e3:(f.p.length:Int)≤16 - (f.l.length:Int):=by omega
     have e4:(f.code.length:Int)≤256:=by omega
     simp [d0,d1,d2,d3,e0,e1,e2,e3,e4]
    ·have e4:¬ (f.code.length:Int)≤256:=by omega
     simp [d3,e4]
   ·have e3:¬ (f.p.length:Int)≤16 - (f.l.length:Int):=by omega
    simp [d2,e3]
  ·have e1:¬ (f.r.length:Int)≤8:=by omega
   simp [d1,e1]
 ·have e0:¬ (f.p.length:Int)≤8:=by omega
  simp [d0,e0]
set_option maxRecDepth 100000 in
set_option maxHeartbeats 2000000 in
theorem rrightFunc_any (s:Scr)(f:Fn)(V0 V1 v0 v1 v2 v3:Value)(w:World)(hs:ScIs w.cell? s V0 V1)(hf:FnIs w.cell? f v0 v1 v2 v3)(hsf:s.fits)(hff:f.fits)(hI64:∀ x ∈ f.code,-9223372036854775808≤x.2∧x.2≤9223372036854775807):Calls Tryz.prog 56 #[.agg #[V0,V1],.agg #[v0,v1,v2,v3]] w fun e w'=>e=.returned (.bool (Fn.right s.consts.length s.funcs.length f))∧Below w.heap.size w w':=by
 have hIn:∀ (sl:Nat) (x:Int × Int) (W:World),x ∈ f.code→(∀ a v,w.cell? a=some v→W.cell? a=some v)→Calls Tryz.prog 88 #[.agg #[V0,V1],.int .i64 (sl:Int),.agg #[.int .i64 x.1,.int .i64 x.2]] W fun e w'=>e=.returned (.bool (insOk s.consts.length s.funcs.length sl x))∧Below W.heap.size W w':=fun sl x W hx hk=>by
  have:=rinstr_any s V0 V1 (sl:Int) x.1 x.2 W (hs.keep hk) hsf
  rw [insR_same _ _ _ _ (hI64 x hx).1 (hI64 x hx).2] at this
  exact this
 obtain ⟨⟨a0,c0,rfl,g0⟩,⟨a1,c1,rfl,g1⟩,⟨a2,c2,rfl,g2⟩,⟨a3,c3,rfl,g3⟩⟩:=hf
 obtain ⟨⟨A0,C0,rfl,_⟩,⟨A1,C1,rfl,_⟩⟩:=hs
 obtain ⟨z0,z1,z2,z3⟩:=hff
 have hT0:∀ W:World,(∀ a v,w.cell? a=some v→W.cell? a=some v)→Calls Tryz.prog 87 #[.slice a0 f.p.length c0,.int .i64 8] W fun e w'=>e=.returned (.bool (f.p.all kindOk && decide ((f.p.length:Int)≤8)))∧w'=W:=fun W hk=>rtypes_any a0 c0 _ f.p 8 rfl W (g0.keep hk) z0
 have hT1:∀ W:World,(∀ a v,w.cell? a=some v→W.cell? a=some v)→Calls Tryz.prog 87 #[.slice a1 f.r.length c1,.int .i64 8] W fun e w'=>e=.returned (.bool (f.r.all kindOk && decide ((f.r.length:Int)≤8)))∧w'=W:=fun W hk=>rtypes_any a1 c1 _ f.r 8 rfl W (g1.keep hk) z1
 have hT2:∀ W:World,(∀ a v,w.cell? a=some v→W.cell? a=some v)→Calls Tryz.prog 87 #[.slice a2 f.l.length c2,.int .i64 16] W fun e w'=>e=.returned (.bool (f.l.all kindOk && decide ((f.l.length:Int)≤16)))∧w'=W:=fun W hk=>rtypes_any a2 c2 _ f.l 16 rfl W (g2.keep hk) z2
 have HR:Hid (Fn.right s.consts.length s.funcs.length f=(f.lists && f.code.all (insOk s.consts.length s.funcs.length (f.p.length+f.l.length)))):=hid rfl
 have HL:=hid (lists_same f)
 have hInS:=hIn (f.p.length+f.l.length)
 clear hIn hsf
 have HA:Hid (∀ (k:Nat) (h:k<f.code.length),insOk s.consts.length s.funcs.length (f.p.length+f.l.length) f.code[k]=false→f.code.all (insOk s.consts.length s.funcs.length (f.p.length+f.l.length))=false):=hid fun k h hp=>all_stop h hp
 have HB:Hid ((∀ (k:Nat) (h:k<f.code.length),insOk s.consts.length s.funcs.length (f.p.length+f.l.length) f.code[k]=true)→f.code.all (insOk s.consts.length s.funcs.length (f.p.length+f.l.length))=true):=hid fun h=>List.all_eq_true.2 fun z hz=>by
  obtain ⟨i,hi,rfl⟩:=List.getElem_of_mem hz
  exact h i hi
 obtain ⟨rr,hrr⟩:∃ rr,rr=Fn.right s.consts.length s.funcs.length f:=⟨_,rfl⟩
 rw [← hrr] at HR ⊢
 clear hrr
 generalize f.code.all (insOk s.consts.length s.funcs.length (f.p.length+f.l.length))=r4 at HR HA HB
 generalize f.lists=fl at HR HL
 generalize (f.p.all kindOk && decide ((f.p.length:Int)≤8))=r0 at hT0 HL
 generalize (f.r.all kindOk && decide ((f.r.length:Int)≤8))=r1 at hT1 HL
 generalize (f.l.all kindOk && decide ((f.l.length:Int)≤16))=r2 at hT2 HL
 generalize s.consts.length=nc at *
 generalize s.funcs.length=nf at *
 obtain ⟨n3,hn3⟩:∃ n,n=f.code.length:=⟨_,rfl⟩
 rw [← hn3] at z3 HL ⊢
 have H3:=hid hn3
 clear hn3 g0 g1 g2 hI64
 generalize f.p.length=n0 at *
 generalize f.r.length=n1 at *
 generalize f.l.length=n2 at *
 obtain ⟨W2,hW2⟩:∃ W2,W2=(w.alloc (.cells #[.slice A0 nc C0,.slice A1 nf C1] 27)).alloc (.cells #[.slice a0 n0 c0,.slice a1 n1 c1,.slice a2 n2 c2,.slice a3 n3 c3] 49):=⟨_,rfl⟩
 have hb2:Below w.heap.size w W2:=by rw [hW2];exact ((Below.refl _ w).alloc (Nat.le_refl _) _).alloc (by simp) _
 have bA:W2.heap[w.heap.size]?=some (.cells #[.slice A0 nc C0,.slice A1 nf C1] 27 (0,0)):=by rw [hW2,Below.heap_alloc _ _ _ (by simp)];exact heap_alloc_new w _
 have bB:W2.heap[w.heap.size+1]?=some (.cells #[.slice a0 n0 c0,.slice a1 n1 c1,.slice a2 n2 c2,.slice a3 n3 c3] 49 (0,0)):=by
  have:=heap_alloc_new (w.alloc (.cells #[.slice A0 nc C0,.slice A1 nf C1] 27)) (.cells #[.slice a0 n0 c0,.slice a1 n1 c1,.slice a2 n2 c2,.slice a3 n3 c3] 49)
  rw [hW2];simpa using this
 have lA:=(Array.getElem?_eq_some_iff.1 bA).1
 have lB:=(Array.getElem?_eq_some_iff.1 bB).1
 have hk2:=below_keep hb2
 replace g3:=g3.keep hk2
 have hU0:=hT0 W2 hk2
 have hU1:=hT1 W2 hk2
 have hU2:=hT2 W2 hk2
 clear hT0 hT1 hT2
 have d3:=Int.ofNat_le.2 z0
 have f0:W2.cell? ⟨w.heap.size+1,0,none⟩=some (.slice a0 n0 c0):=by rw [Lib.cell_of_heap bB];rfl
 have f1:W2.cell? ⟨w.heap.size+1,1,none⟩=some (.slice a1 n1 c1):=by rw [Lib.cell_of_heap bB];rfl
 have f2:W2.cell? ⟨w.heap.size+1,2,none⟩=some (.slice a2 n2 c2):=by rw [Lib.cell_of_heap bB];rfl
 have f3:W2.cell? ⟨w.heap.size+1,3,none⟩=some (.slice a3 n3 c3):=by rw [Lib.cell_of_heap bB];rfl
 clear d3
 cases r0 with
 | false =>
  have HE:Hid (rr=false):=hid (by rw [HR.out,HL.out];simp)
  go_enter Tryz.func56,Tryz.ntmps56
  go_wp2_with fail
  rw [← hW2]
  clear hW2
  refine hU0.mono ?_
  rintro e w' ⟨rfl,hw'⟩
  replace hw':=hw'.symm
  subst hw'
  clear hU0
  go_wp2_with (go_at_call 87;first | (refine hU1.mono ?_;rintro e w' ⟨rfl,hw'⟩;replace hw':=hw'.symm;subst hw';clear hU1) | (refine hU2.mono ?_;rintro e w' ⟨rfl,hw'⟩;replace hw':=hw'.symm;subst hw';clear hU2))
  go_ret
  exact ⟨by rw [HE.out];rfl,hb2⟩
 | true =>
 cases r1 with
 | false =>
  have HE:Hid (rr=false):=hid (by rw [HR.out,HL.out];simp)
  go_enter Tryz.func56,Tryz.ntmps56
  go_wp2_with fail
  rw [← hW2]
  clear hW2
  refine hU0.mono ?_
  rintro e w' ⟨rfl,hw'⟩
  replace hw':=hw'.symm
  subst hw'
  clear hU0
  go_wp2_with (go_at_call 87;first | (refine hU1.mono ?_;rintro e w' ⟨rfl,hw'⟩;replace hw':=hw'.symm;subst hw';clear hU1) | (refine hU2.mono ?_;rintro e w' ⟨rfl,hw'⟩;replace hw':=hw'.symm;subst hw';clear hU2))
  go_ret
  exact ⟨by rw [HE.out];rfl,hb2⟩
 | true =>
 cases r2 with
 | false =>
  have HE:Hid (rr=false):=hid (by rw [HR.out,HL.out];simp)
  go_enter Tryz.func56,Tryz.ntmps56
  go_wp2_with fail
  rw [← hW2]
  clear hW2
  refine hU0.mono ?_
  rintro e w' ⟨rfl,hw'⟩
  replace hw':=hw'.symm
  subst hw'
  clear hU0
  go_wp2_with (go_at_call 87;first | (refine hU1.mono ?_;rintro e w' ⟨rfl,hw'⟩;replace hw':=hw'.symm;subst hw';clear hU1) | (refine hU2.mono ?_;rintro e w' ⟨rfl,hw'⟩;replace hw':=hw'.symm;subst hw';clear hU2))
  go_ret
  exact ⟨by rw [HE.out];rfl,hb2⟩
 | true =>
 by_cases q3:(n0:Int)≤16 - (n2:Int)
 ·by_cases q4:(n3:Int)≤256
  ·have HE:Hid (rr=r4):=hid (by rw [HR.out,HL.out];simp [q3,q4])
   clear HR HL
   go_enter Tryz.func56,Tryz.ntmps56
   go_wp2_with fail
   rw [← hW2]
   clear hW2
   refine hU0.mono ?_
   rintro e w' ⟨rfl,hw'⟩
   replace hw':=hw'.symm
   subst hw'
   clear hU0
   go_wp2_with (go_at_call 87;first | (refine hU1.mono ?_;rintro e w' ⟨rfl,hw'⟩;replace hw':=hw'.symm;subst hw';clear hU1) | (refine hU2.mono ?_;rintro e w' ⟨rfl,hw'⟩;replace hw':=hw'.symm;subst hw';clear hU2))
   go_loopw [5] (fun i wr=>∃ k:Nat,k≤n3∧i=.int .i64 k∧Hid (∀ (j:Nat) (h:j<f.code.length),j<k→insOk nc nf (n0+n2) f.code[j]=true)∧Below W2.heap.size W2 wr) (fun i _=>n3 - (intOf i).toNat)
   case atStart=>exact ⟨0,Nat.zero_le _,rfl,hid (by omega),Below.refl _ _⟩
   case round =>
    obtain ⟨k,hk,rfl,hr,hbr⟩:=hrel
    have hbw:=hb2.trans (hbr.mono hb2.size)
    have hcells:∀ W,Below W2.heap.size W2 W→(W.cell? ⟨w.heap.size+1,0,none⟩=some (.slice a0 n0 c0)∧W.cell? ⟨w.heap.size+1,2,none⟩=some (.slice a2 n2 c2)∧W.cell? ⟨w.heap.size+1,3,none⟩=some (.slice a3 n3 c3))∧W.cell? ⟨w.heap.size,0,none⟩=some (.slice A0 nc C0)∧W.cell? ⟨w.heap.size,1,none⟩=some (.slice A1 nf C1):=fun W hW=>by
     have eB:=(hW.block _ lB).trans bB
     have eA:=(hW.block _ lA).trans bA
     exact ⟨⟨by rw [Lib.cell_of_heap eB];rfl,by rw [Lib.cell_of_heap eB];rfl,by rw [Lib.cell_of_heap eB];rfl⟩,by rw [Lib.cell_of_heap eA];rfl,by rw [Lib.cell_of_heap eA];rfl⟩
    obtain ⟨⟨k0,k2,k3⟩,k4,k5⟩:=hcells wr hbr
    by_cases hlt:k<n3
    ·rcases g3 with hz | ⟨x0,o0,rfl,hc0⟩
     ·have:=H3.out;rw [hz] at this;simp at this;omega
     have kl:k<f.code.length:=by have:=H3.out;omega
     obtain ⟨q0,q1⟩:=hc0 k kl
     have HS:=hid (HA.out k kl)
     have HT:Hid (insOk nc nf (n0+n2) f.code[k]=true→∀ (j:Nat) (h:j<f.code.length),j<k+1→insOk nc nf (n0+n2) f.code[j]=true):=hid fun h j h1 hjk=>by
      rcases Nat.lt_or_ge j k with h3 | h3
      ·exact hr.out j h1 h3
      ·obtain rfl:j=k:=by omega
       exact h
     have hCall:=hInS f.code[k] wr.drew (by simp) (below_keep hbw.drew)
     generalize f.code[k]=x at q0 q1 HS HT hCall
     obtain ⟨xo,xa⟩:=x
     simp only at q0 q1 hCall
     replace q0:=below_keep hbr _ _ q0
     replace q1:=below_keep hbr _ _ q1
     clear hc0 hInS
     have hsum:IntKind.i64.wrap ((n0:Int)+(n2:Int))=(n0:Int)+(n2:Int):=by rw [IntKind.wrap_i64];omega
     have hcast:((n0+n2:Nat):Int)=(n0:Int)+(n2:Int):=by omega
     rw [hcast] at hCall
     clear hcast
     generalize insOk nc nf (n0+n2) (xo,xa)=ok at HS HT hCall
     obtain ⟨S,hS⟩:∃ S:World→Prop,S=(fun W=>W.cell? ⟨w.heap.size+1,0,none⟩=some (.slice a0 n0 c0)∧W.cell? ⟨w.heap.size+1,2,none⟩=some (.slice a2 n2 c2)∧W.cell? ⟨w.heap.size+1,3,none⟩=some (.slice (some ⟨x0,o0,none⟩) n3 c3)∧W.cell? ⟨w.heap.size,0,none⟩=some (.slice A0 nc C0)∧W.cell? ⟨w.heap.size,1,none⟩=some (.slice A1 nf C1)∧W.cell? ⟨x0,o0+k*2,none⟩=some (.int .i64 xo)∧W.cell? ⟨x0,o0+k*2+1,none⟩=some (.int .i64 xa)):=⟨_,rfl⟩
     have hSk:∀ W,Below wr.heap.size wr W→S W:=fun W hW=>by
      rw [hS]
      have hk:=below_keep hW
      exact ⟨hk _ _ k0,hk _ _ k2,hk _ _ k3,hk _ _ k4,hk _ _ k5,hk _ _ q0,hk _ _ q1⟩
     rw [hS] at hSk
     clear hS S
     cases ok with
     | false =>
      have HG:=hid (HS.out rfl)
      clear HS HT
      go_wp2_with fail
      go_region_held3 (fun W=>W.cell? ⟨w.heap.size+1,0,none⟩=some (.slice a0 n0 c0)∧W.cell? ⟨w.heap.size+1,2,none⟩=some (.slice a2 n2 c2)∧W.cell? ⟨w.heap.size+1,3,none⟩=some (.slice (some ⟨x0,o0,none⟩) n3 c3)∧W.cell? ⟨w.heap.size,0,none⟩=some (.slice A0 nc C0)∧W.cell? ⟨w.heap.size,1,none⟩=some (.slice A1 nf C1)∧W.cell? ⟨x0,o0+k*2,none⟩=some (.int .i64 xo)∧W.cell? ⟨x0,o0+k*2+1,none⟩=some (.int .i64 xa)) (first | go_keep | exact hSk _ ((Below.refl _ wr).drew.trans hb5)) (first | (go_at_call 88;refine hCall.mono ?_;rintro e w5 ⟨rfl,hb5⟩))
      have hbw5:=hbw.drew.trans (hb5.mono hbw.drew.size)
      have hbr5:=hbr.drew.trans (hb5.mono hbr.drew.size)
      go_wp2_with fail
      go_ret
      exact ⟨by rw [HE.out,HG.out];rfl,hbw5⟩
     | true =>
      have HG:=hid (HT.out rfl)
      clear HS HT
      go_wp2_with fail
      go_region_held3 (fun W=>W.cell? ⟨w.heap.size+1,0,none⟩=some (.slice a0 n0 c0)∧W.cell? ⟨w.heap.size+1,2,none⟩=some (.slice a2 n2 c2)∧W.cell? ⟨w.heap.size+1,3,none⟩=some (.slice (some ⟨x0,o0,none⟩) n3 c3)∧W.cell? ⟨w.heap.size,0,none⟩=some (.slice A0 nc C0)∧W.cell? ⟨w.heap.size,1,none⟩=some (.slice A1 nf C1)∧W.cell? ⟨x0,o0+k*2,none⟩=some (.int .i64 xo)∧W.cell? ⟨x0,o0+k*2+1,none⟩=some (.int .i64 xa)) (first | go_keep | exact hSk _ ((Below.refl _ wr).drew.trans hb5)) (first | (go_at_call 88;refine hCall.mono ?_;rintro e w5 ⟨rfl,hb5⟩))
      have hbw5:=hbw.drew.trans (hb5.mono hbw.drew.size)
      have hbr5:=hbr.drew.trans (hb5.mono hbr.drew.size)
      go_wp2_with fail
      exact ⟨⟨k+1,by omega,by go_num,HG,hbr5⟩,by simp [intOf];omega⟩
    ·have HF:Hid (rr=true):=hid (by rw [HE.out];exact HB.out fun j h=>hr.out j h (by have:=H3.out;omega))
     go_wp2_with fail
     go_ret
     exact ⟨by rw [HF.out];rfl,hbw⟩
  ·have HE:Hid (rr=false):=hid (by rw [HR.out,HL.out];simp [q4])
   have q4':(256:Int)<(n3:Int):=by omega
   go_enter Tryz.func56,Tryz.ntmps56
   go_wp2_with fail
   rw [← hW2]
   clear hW2
   refine hU0.mono ?_
   rintro e w' ⟨rfl,hw'⟩
   replace hw':=hw'.symm
   subst hw'
   clear hU0
   go_wp2_with (go_at_call 87;first | (refine hU1.mono ?_;rintro e w' ⟨rfl,hw'⟩;replace hw':=hw'.symm;subst hw';clear hU1) | (refine hU2.mono ?_;rintro e w' ⟨rfl,hw'⟩;replace hw':=hw'.symm;subst hw';clear hU2))
   go_ret
   exact ⟨by rw [HE.out];rfl,hb2⟩
 ·have HE:Hid (rr=false):=hid (by rw [HR.out,HL.out];simp [q3])
  have q3':(16:Int) - (n2:Int)<(n0:Int):=by omega
  go_enter Tryz.func56,Tryz.ntmps56
  go_wp2_with fail
  rw [← hW2]
  clear hW2
  refine hU0.mono ?_
  rintro e w' ⟨rfl,hw'⟩
  replace hw':=hw'.symm
  subst hw'
  clear hU0
  go_wp2_with (go_at_call 87;first | (refine hU1.mono ?_;rintro e w' ⟨rfl,hw'⟩;replace hw':=hw'.symm;subst hw';clear hU1) | (refine hU2.mono ?_;rintro e w' ⟨rfl,hw'⟩;replace hw':=hw'.symm;subst hw';clear hU2))
  go_ret
  exact ⟨by rw [HE.out];rfl,hb2⟩
end Go.Proofs.YtpmlnkjamhelnaaGreat
