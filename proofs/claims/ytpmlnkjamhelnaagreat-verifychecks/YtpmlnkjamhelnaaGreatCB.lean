/- The document's Clone. The document's Same. Slots: the program's and the document's; the law's comparison of two lists of numbers. -/
import Derived.Test.YtpmlnkjamhelnaaGreatAN
import Derived.Deep.RegionLaw
import Derived.Deep.QuietTactic
import Derived.BigQuiet
namespace Go.Proofs.YtpmlnkjamhelnaaGreat
open Go.RowKit
def Fn.fits (f:Fn):Prop:=f.p.length≤17592186044416∧f.r.length≤17592186044416∧f.l.length≤17592186044416∧f.code.length≤8796093022208
def Scr.fits (s:Scr):Prop:=s.consts.length≤8796093022208∧s.funcs.length≤1466015503701∧(∀ f ∈ s.funcs,f.fits)∧∀ x ∈ s.consts,x.length≤9223372036854775807
theorem keepA (w:World)(o:Obj):∀ a v,w.cell? a=some v→(w.alloc o).cell? a=some v:=below_keep ((Below.refl _ w).alloc (Nat.le_refl _) o)
theorem results_cell1 {fn:Func}{t:Tmp}{ty:TypeId}(h:fn.results=#[.cell t ty])(tmps:Array Value)(P:Program)(w:World)(a:Addr)(v:Value)(ha:tmps[t]?.getD undef=.pointer (some a))(hl:(loadVar ty a).run P w=.ok v w) :
  (results fn tmps).run P w=.ok v w:=by
 simp [results,h,ha,asAddr,hl]
theorem load_scr {w:World}{b:Nat}{x y:Value}(h0:w.cell? ⟨b,0,none⟩=some x)(h1:w.cell? ⟨b,1,none⟩=some y):(loadVar 27 ⟨b,0,none⟩).run Tryz.prog w=.ok (.agg #[x,y]) w:=by
 simp [loadVar,go_sem,h0,h1]
theorem ret_scr {fn:Func}{R:Ending→World→Prop}{a:Act}{t:Tmp}{w:World}{b:Nat}{x y:Value}(h:fn.results=#[.cell t 27])(ha:a.tmps[t]?.getD undef=.pointer (some ⟨b,0,none⟩))(hd:a.defers=[])(h0:w.cell? ⟨b,0,none⟩=some x)(h1:w.cell? ⟨b,1,none⟩=some y)(hR:R (.returned (.agg #[x,y])) w):bodyPost Tryz.prog fn R .ret a w :=
 bodyPost_ret (results_cell1 h _ _ _ _ _ ha (load_scr h0 h1)) hd hR
theorem below_draws2 {B:Nat}{a w:World}(h:Below B a w)(m:Nat):Below B a (w.drewN m):=⟨h.os,h.tape,h.output,h.size,h.block⟩
theorem list_ne {α:Type} [DecidableEq α] {L M:List α}{k:Nat}(h1:k<L.length)(h2:k<M.length)(h:L[k]≠M[k]):decide (L=M)=false:=decide_eq_false fun e=>by subst e;exact h rfl
set_option maxRecDepth 100000 in
set_option maxHeartbeats 1000000 in
theorem ints2_any (a b:Option Addr)(c d n m:Nat)(ns ms:List Int)(hn:ns.length=n)(hm:ms.length=m)(w:World)(ha:NsAt w.cell? a ns)(hb:NsAt w.cell? b ms)(hl:n≤17592186044416)(hl':m≤17592186044416):Calls Tryz.prog 33 #[.slice a n c,.slice b m d] w fun e w'=>e=.returned (.bool (decide (ns=ms)))∧∃ k,w'=w.drewN k:=by
 by_cases hnm:n=m
 ·subst hnm
  go_enter Tryz.func33,Tryz.ntmps33
  go_wp2
  go_loopw [5] (fun i wr=>∃ k m:Nat,k≤n∧i=.int .i64 k∧(∀ j (h1:j<ns.length) (h2:j<ms.length),j<k→ns[j]=ms[j])∧wr=w.drewN m) (fun i _=>n - (intOf i).toNat)
  case atStart=>exact ⟨0,0,Nat.zero_le _,rfl,by omega,rfl⟩
  case round =>
   obtain ⟨k,m,hk,rfl,hr,rfl⟩:=hrel
   by_cases hlt:k<n
   ·rcases ha with h0 | ⟨b0,off0,rfl,hc0⟩
    ·subst h0;simp at hn;omega
    rcases hb with h0 | ⟨b1,off1,rfl,hc1⟩
    ·subst h0;simp at hm;omega
    have c0:=hc0 k (by omega)
    have d0:=hc1 k (by omega)
    have HN:Hid (ns[k]≠ms[k]→decide (ns=ms)=false):=hid (list_ne (by omega) (by omega))
    have HT:Hid (ns[k]=ms[k]→∀ j (h1:j<ns.length) (h2:j<ms.length),j<k+1→ns[j]=ms[j]):=hid fun h j h1 h2 hjk=>by
     rcases Nat.lt_or_ge j k with h3 | h3
     ·exact hr j h1 h2 h3
     ·obtain rfl:j=k:=by omega
      exact h
    generalize ns[k]=x at c0 HN HT
    generalize ms[k]=y at d0 HN HT
    clear hc0 hc1
    by_cases h1:x=y
    ·subst h1
     go_wp2
     go_quiet (fail)
     go_wp2
     refine ⟨⟨k+1,_,by omega,by go_num,HT.out (by simp),rfl⟩,by simp [intOf];omega⟩
    ·have q:(x != y)=true:=by simp [h1]
     go_wp2
     go_quiet (fail)
     go_wp2
     go_ret
     exact ⟨by rw [HN.out h1];rfl,m+nq,World.drewN_drewN _ _ _⟩
   ·have HE:Hid (decide (ns=ms)=true):=hid (decide_eq_true (List.ext_getElem (by omega) fun j h1 h2=>hr j h1 h2 (by omega)))
    go_wp2
    go_ret
    exact ⟨by rw [HE.out];rfl,m,rfl⟩
 ·have hne:((n:Int) != (m:Int))=true:=by simp;omega
  have hd:decide (ns=ms)=false:=decide_eq_false fun h=>hnm (by rw [← hn,← hm,h])
  go_enter Tryz.func33,Tryz.ntmps33
  go_wp2
  go_ret
  exact ⟨by rw [hd];rfl,0,rfl⟩
set_option maxRecDepth 100000 in
set_option maxHeartbeats 1000000 in
theorem rsame_any (s t:Scr)(v0 v1 u0 u1:Value)(w:World)(hS:ScIs w.cell? s v0 v1)(hT:ScIs w.cell? t u0 u1)(hf:s.fits)(hg:t.fits):Calls Tryz.prog 18 #[.agg #[v0,v1],.agg #[u0,u1]] w fun e w'=>e=.returned (.bool (decide (s=t)))∧Below w.heap.size w w':=by
 obtain ⟨⟨a0,c0,rfl,h0⟩,⟨a1,c1,rfl,h1⟩⟩:=hS
 obtain ⟨⟨b0,d0,rfl,g0⟩,⟨b1,d1,rfl,g1⟩⟩:=hT
 obtain ⟨hf0,hf1,hf2,_⟩:=hf
 obtain ⟨hg0,hg1,hg2,_⟩:=hg
 obtain ⟨N0,hN0⟩:∃ n,n=s.consts.length:=⟨_,rfl⟩
 obtain ⟨N1,hN1⟩:∃ n,n=s.funcs.length:=⟨_,rfl⟩
 obtain ⟨M0,hM0⟩:∃ n,n=t.consts.length:=⟨_,rfl⟩
 obtain ⟨M1,hM1⟩:∃ n,n=t.funcs.length:=⟨_,rfl⟩
 rw [← hN0] at hf0 ⊢
 rw [← hN1] at hf1 ⊢
 rw [← hM0] at hg0 ⊢
 rw [← hM1] at hg1 ⊢
 have HN0:=hid hN0
 have HN1:=hid hN1
 have HM0:=hid hM0
 have HM1:=hid hM1
 clear hN0 hN1 hM0 hM1
 obtain ⟨W2,hW2⟩:∃ W2,W2=(w.alloc (.cells #[.slice a0 N0 c0,.slice a1 N1 c1] 27)).alloc (.cells #[.slice b0 M0 d0,.slice b1 M1 d1] 27):=⟨_,rfl⟩
 have hb2:Below w.heap.size w W2:=by rw [hW2];exact ((Below.refl _ w).alloc (Nat.le_refl _) _).alloc (by simp) _
 by_cases e0:N0=M0
 ·by_cases e1:N1=M1
  ·subst e0 e1
   have bA:W2.heap[w.heap.size]?=some (.cells #[.slice a0 N0 c0,.slice a1 N1 c1] 27 (0,0)):=by rw [hW2,Below.heap_alloc _ _ _ (by simp)];exact heap_alloc_new w _
   have bB:W2.heap[w.heap.size+1]?=some (.cells #[.slice b0 N0 d0,.slice b1 N1 d1] 27 (0,0)):=by
    have:=heap_alloc_new (w.alloc (.cells #[.slice a0 N0 c0,.slice a1 N1 c1] 27)) (.cells #[.slice b0 N0 d0,.slice b1 N1 d1] 27)
    rw [hW2];simpa using this
   have lA:=(Array.getElem?_eq_some_iff.1 bA).1
   have lB:=(Array.getElem?_eq_some_iff.1 bB).1
   have pA0:W2.cell? ⟨w.heap.size,0,none⟩=some (.slice a0 N0 c0):=by rw [Lib.cell_of_heap bA];rfl
   have pA1:W2.cell? ⟨w.heap.size,1,none⟩=some (.slice a1 N1 c1):=by rw [Lib.cell_of_heap bA];rfl
   have pB0:W2.cell? ⟨w.heap.size+1,0,none⟩=some (.slice b0 N0 d0):=by rw [Lib.cell_of_heap bB];rfl
   have pB1:W2.cell? ⟨w.heap.size+1,1,none⟩=some (.slice b1 N1 d1):=by rw [Lib.cell_of_heap bB];rfl
   replace h0:=h0.keep (below_keep hb2)
   replace g0:=g0.keep (below_keep hb2)
   replace h1:=h1.keep (below_keep hb2)
   replace g1:=g1.keep (below_keep hb2)
   go_enter Tryz.func18,Tryz.ntmps18
   go_wp2
   rw [← hW2]
   clear hW2
   go_loopw [5] (fun i wr=>∃ k m:Nat,k≤N0∧i=.int .i64 k∧(∀ j (h1:j<s.consts.length) (h2:j<t.consts.length),j<k→s.consts[j]=t.consts[j])∧wr=W2.drewN m) (fun i _=>N0 - (intOf i).toNat)
   case atStart=>exact ⟨0,0,Nat.zero_le _,rfl,by omega,rfl⟩
   case round =>
    obtain ⟨k,m,hk,rfl,hr,rfl⟩:=hrel
    by_cases hlt:k<N0
    ·rcases h0 with hz | ⟨x0,o0,rfl,hc0⟩
     ·have:=HN0.out;rw [hz] at this;simp at this;omega
     rcases g0 with hz | ⟨x1,o1,rfl,hc1⟩
     ·have:=HM0.out;rw [hz] at this;simp at this;omega
     have kl:k<s.consts.length:=by have:=HN0.out;omega
     have kl':k<t.consts.length:=by have:=HM0.out;omega
     have q0:=hc0 k kl
     have q1:=hc1 k kl'
     have HN:Hid (s.consts[k]≠t.consts[k]→decide (s=t)=false):=hid fun h=>decide_eq_false fun e=>by subst e;exact h rfl
     have HT:Hid (s.consts[k]=t.consts[k]→∀ j (h1:j<s.consts.length) (h2:j<t.consts.length),j<k+1→s.consts[j]=t.consts[j]):=hid fun h j h1 h2 hjk=>by
      rcases Nat.lt_or_ge j k with h3 | h3
      ·exact hr j h1 h2 h3
      ·obtain rfl:j=k:=by omega
       exact h
     generalize s.consts[k]=x at q0 HN HT
     generalize t.consts[k]=y at q1 HN HT
     clear hc0 hc1
     by_cases hxy:x=y
     ·subst hxy
      go_wp2
      go_quiet (fail)
      go_wp2
      refine ⟨⟨k+1,_,by omega,by go_num,HT.out (by simp),rfl⟩,by simp [intOf];omega⟩
     ·have q:(x != y)=true:=by simp [hxy]
      have q':(x == y)=false:=by simp [hxy]
      go_wp2
      go_quiet (fail)
      go_wp2
      go_ret
      exact ⟨by rw [HN.out hxy];rfl,below_draws2 (below_draws2 hb2 _) _⟩
    ·have HC:Hid (s.consts=t.consts):=hid (List.ext_getElem (by have:=HN0.out;have:=HM0.out;omega) fun j h1 h2=>hr j h1 h2 (by have:=HN0.out;omega))
     clear hr
     go_wp2
     go_loopw [6] (fun i wr=>∃ k:Nat,k≤N1∧i=.int .i64 k∧(∀ j (h1:j<s.funcs.length) (h2:j<t.funcs.length),j<k→s.funcs[j]=t.funcs[j])∧Below W2.heap.size W2 wr) (fun i _=>N1 - (intOf i).toNat)
     case atStart=>exact ⟨0,Nat.zero_le _,rfl,by omega,below_draws2 (Below.refl _ _) _⟩
     case round =>
      obtain ⟨k,hk,rfl,hr,hbr⟩:=hrel
      have hbw:Below w.heap.size w wr:=hb2.trans (hbr.mono hb2.size)
      have pA1:=below_keep hbr _ _ pA1
      have pB1:=below_keep hbr _ _ pB1
      by_cases hlt:k<N1
      ·rcases h1 with hz | ⟨x0,o0,rfl,hc0⟩
       ·have:=HN1.out;rw [hz] at this;simp at this;omega
       rcases g1 with hz | ⟨x1,o1,rfl,hc1⟩
       ·have:=HM1.out;rw [hz] at this;simp at this;omega
       have kl:k<s.funcs.length:=by have:=HN1.out;omega
       have kl':k<t.funcs.length:=by have:=HM1.out;omega
       obtain ⟨v0,v1,v2,v3,q0,q1,q2,q3,hfn⟩:=hc0 k kl
       obtain ⟨u0,u1,u2,u3,r0,r1,r2,r3,hgn⟩:=hc1 k kl'
       have HN:Hid (s.funcs[k]≠t.funcs[k]→decide (s=t)=false):=hid fun h=>decide_eq_false fun e=>by subst e;exact h rfl
       have HT:Hid (s.funcs[k]=t.funcs[k]→∀ j (h1:j<s.funcs.length) (h2:j<t.funcs.length),j<k+1→s.funcs[j]=t.funcs[j]):=hid fun h j h1 h2 hjk=>by
        rcases Nat.lt_or_ge j k with h3 | h3
        ·exact hr j h1 h2 h3
        ·obtain rfl:j=k:=by omega
         exact h
       have ff:=hf2 s.funcs[k] (by simp)
       have gg:=hg2 t.funcs[k] (by simp)
       generalize s.funcs[k]=f at hfn HN HT ff
       generalize t.funcs[k]=g at hgn HN HT gg
       clear hc0 hc1 hr
       have hkp:=below_keep hbr
       replace q0:=hkp _ _ q0
       replace q1:=hkp _ _ q1
       replace q2:=hkp _ _ q2
       replace q3:=hkp _ _ q3
       replace r0:=hkp _ _ r0
       replace r1:=hkp _ _ r1
       replace r2:=hkp _ _ r2
       replace r3:=hkp _ _ r3
       replace hfn:=hfn.keep hkp
       replace hgn:=hgn.keep hkp
       clear hkp
       obtain ⟨⟨fa0,fc0,rfl,F0⟩,⟨fa1,fc1,rfl,F1⟩,⟨fa2,fc2,rfl,F2⟩,⟨fa3,fc3,rfl,F3⟩⟩:=hfn
       obtain ⟨⟨ga0,gc0,rfl,G0⟩,⟨ga1,gc1,rfl,G1⟩,⟨ga2,gc2,rfl,G2⟩,⟨ga3,gc3,rfl,G3⟩⟩:=hgn
       obtain ⟨fp,fr,fl,fcode⟩:=f
       obtain ⟨gp,gr,gl,gcode⟩:=g
       simp only [Fn.fits] at ff gg F0 F1 F2 F3 G0 G1 G2 G3 q0 q1 q2 q3 r0 r1 r2 r3
       obtain ⟨n0,hn0⟩:∃ n,n=fp.length:=⟨_,rfl⟩
       obtain ⟨n1,hn1⟩:∃ n,n=fr.length:=⟨_,rfl⟩
       obtain ⟨n2,hn2⟩:∃ n,n=fl.length:=⟨_,rfl⟩
       obtain ⟨n3,hn3⟩:∃ n,n=fcode.length:=⟨_,rfl⟩
       obtain ⟨m0,hm0⟩:∃ n,n=gp.length:=⟨_,rfl⟩
       obtain ⟨m1,hm1⟩:∃ n,n=gr.length:=⟨_,rfl⟩
       obtain ⟨m2,hm2⟩:∃ n,n=gl.length:=⟨_,rfl⟩
       obtain ⟨m3,hm3⟩:∃ n,n=gcode.length:=⟨_,rfl⟩
       rw [← hn0,← hn1,← hn2,← hn3] at ff
       rw [← hm0,← hm1,← hm2,← hm3] at gg
       rw [← hn0] at q0
       rw [← hn1] at q1
       rw [← hn2] at q2
       rw [← hn3] at q3
       rw [← hm0] at r0
       rw [← hm1] at r1
       rw [← hm2] at r2
       rw [← hm3] at r3
       obtain ⟨z0,z1,z2,z3⟩:=ff
       obtain ⟨y0,y1,y2,y3⟩:=gg
       obtain ⟨W4,hW4⟩:∃ W4,W4=(wr.alloc (.cells #[.slice fa0 n0 fc0,.slice fa1 n1 fc1,.slice fa2 n2 fc2,.slice fa3 n3 fc3] 49)).alloc (.cells #[.slice ga0 m0 gc0,.slice ga1 m1 gc1,.slice ga2 m2 gc2,.slice ga3 m3 gc3] 49):=⟨_,rfl⟩
       have hb4:Below wr.heap.size wr W4:=by rw [hW4];exact ((Below.refl _ wr).alloc (Nat.le_refl _) _).alloc (by simp) _
       have k4:∀ m a v,wr.cell? a=some v→(W4.drewN m).cell? a=some v:=fun m=>below_keep (below_draws2 hb4 m)
       have hI0:∀ m,Calls Tryz.prog 33 #[.slice fa0 n0 fc0,.slice ga0 m0 gc0] (W4.drewN m) fun e w'=>e=.returned (.bool (decide (fp=gp)))∧∃ k,w'=W4.drewN k:=fun m=>(ints2_any fa0 ga0 fc0 gc0 n0 m0 fp gp hn0.symm hm0.symm _ (F0.keep (k4 m)) (G0.keep (k4 m)) z0 y0).mono fun e w' ⟨he,j,hj⟩=>⟨he,m+j,by rw [hj];exact World.drewN_drewN _ _ _⟩
       have hI1:∀ m,Calls Tryz.prog 33 #[.slice fa1 n1 fc1,.slice ga1 m1 gc1] (W4.drewN m) fun e w'=>e=.returned (.bool (decide (fr=gr)))∧∃ k,w'=W4.drewN k:=fun m=>(ints2_any fa1 ga1 fc1 gc1 n1 m1 fr gr hn1.symm hm1.symm _ (F1.keep (k4 m)) (G1.keep (k4 m)) z1 y1).mono fun e w' ⟨he,j,hj⟩=>⟨he,m+j,by rw [hj];exact World.drewN_drewN _ _ _⟩
       have hI2:∀ m,Calls Tryz.prog 33 #[.slice fa2 n2 fc2,.slice ga2 m2 gc2] (W4.drewN m) fun e w'=>e=.returned (.bool (decide (fl=gl)))∧∃ k,w'=W4.drewN k:=fun m=>(ints2_any fa2 ga2 fc2 gc2 n2 m2 fl gl hn2.symm hm2.symm _ (F2.keep (k4 m)) (G2.keep (k4 m)) z2 y2).mono fun e w' ⟨he,j,hj⟩=>⟨he,m+j,by rw [hj];exact World.drewN_drewN _ _ _⟩
       have HN3:=hid hn3
       have HM3:=hid hm3
       clear hn0 hn1 hn2 hn3 hm0 hm1 hm2 hm3 F0 F1 F2 G0 G1 G2
       have hI00:=hI0 0
       have hW40:W4.drewN 0=W4:=rfl
       rw [hW40] at hI00
       have hbW4:∀ m,Below w.heap.size w (W4.drewN m):=fun m=>below_draws2 (hbw.trans (hb4.mono hbw.size)) m
       have hb24:∀ m,Below W2.heap.size W2 (W4.drewN m):=fun m=>below_draws2 (hbr.trans (hb4.mono hbr.size)) m
       have bF:W4.heap[wr.heap.size]?=some (.cells #[.slice fa0 n0 fc0,.slice fa1 n1 fc1,.slice fa2 n2 fc2,.slice fa3 n3 fc3] 49 (0,0)):=by rw [hW4,Below.heap_alloc _ _ _ (by simp)];exact heap_alloc_new wr _
       have bG:W4.heap[wr.heap.size+1]?=some (.cells #[.slice ga0 m0 gc0,.slice ga1 m1 gc1,.slice ga2 m2 gc2,.slice ga3 m3 gc3] 49 (0,0)):=by
        have:=heap_alloc_new (wr.alloc (.cells #[.slice fa0 n0 fc0,.slice fa1 n1 fc1,.slice fa2 n2 fc2,.slice fa3 n3 fc3] 49)) (.cells #[.slice ga0 m0 gc0,.slice ga1 m1 gc1,.slice ga2 m2 gc2,.slice ga3 m3 gc3] 49)
        rw [hW4];simpa using this
       have s0:W4.cell? ⟨wr.heap.size,0,none⟩=some (.slice fa0 n0 fc0):=by rw [Lib.cell_of_heap bF];rfl
       have s1:W4.cell? ⟨wr.heap.size,1,none⟩=some (.slice fa1 n1 fc1):=by rw [Lib.cell_of_heap bF];rfl
       have s2:W4.cell? ⟨wr.heap.size,2,none⟩=some (.slice fa2 n2 fc2):=by rw [Lib.cell_of_heap bF];rfl
       have s3:W4.cell? ⟨wr.heap.size,3,none⟩=some (.slice fa3 n3 fc3):=by rw [Lib.cell_of_heap bF];rfl
       have t0:W4.cell? ⟨wr.heap.size+1,0,none⟩=some (.slice ga0 m0 gc0):=by rw [Lib.cell_of_heap bG];rfl
       have t1:W4.cell? ⟨wr.heap.size+1,1,none⟩=some (.slice ga1 m1 gc1):=by rw [Lib.cell_of_heap bG];rfl
       have t2:W4.cell? ⟨wr.heap.size+1,2,none⟩=some (.slice ga2 m2 gc2):=by rw [Lib.cell_of_heap bG];rfl
       have t3:W4.cell? ⟨wr.heap.size+1,3,none⟩=some (.slice ga3 m3 gc3):=by rw [Lib.cell_of_heap bG];rfl
       have pB1':=keepA wr (.cells #[.slice fa0 n0 fc0,.slice fa1 n1 fc1,.slice fa2 n2 fc2,.slice fa3 n3 fc3] 49) _ _ pB1
       have r0':=keepA wr (.cells #[.slice fa0 n0 fc0,.slice fa1 n1 fc1,.slice fa2 n2 fc2,.slice fa3 n3 fc3] 49) _ _ r0
       have r1':=keepA wr (.cells #[.slice fa0 n0 fc0,.slice fa1 n1 fc1,.slice fa2 n2 fc2,.slice fa3 n3 fc3] 49) _ _ r1
       have r2':=keepA wr (.cells #[.slice fa0 n0 fc0,.slice fa1 n1 fc1,.slice fa2 n2 fc2,.slice fa3 n3 fc3] 49) _ _ r2
       have r3':=keepA wr (.cells #[.slice fa0 n0 fc0,.slice fa1 n1 fc1,.slice fa2 n2 fc2,.slice fa3 n3 fc3] 49) _ _ r3
       go_upto_region 13 with fail
       rw [← hW4]
       clear hW4 hI0 pB1' r0' r1' r2' r3' q0 q1 q2 q3 r0 r1 r2 r3
       by_cases ep:fp=gp
       ·rw [decide_eq_true ep] at hI00
        by_cases er:fr=gr
        ·rw [decide_eq_true er] at hI1
         by_cases el:fl=gl
         ·rw [decide_eq_true el] at hI2
          by_cases e3:n3=m3
          ·subst e3
           go_wp2_with (go_at_call 33;first | (refine hI00.mono ?_;rintro e w' ⟨rfl,j1,rfl⟩;clear hI00) | (refine (hI1 _).mono ?_;rintro e w' ⟨rfl,j2,rfl⟩;clear hI1) | (refine (hI2 _).mono ?_;rintro e w' ⟨rfl,j3,rfl⟩;clear hI2))
           have F4:=F3.keep (k4 0)
           have G4:=G3.keep (k4 0)
           rw [hW40] at F4 G4
           clear F3 G3
           go_loopw [9] (fun i w5=>∃ j m:Nat,j≤n3∧i=.int .i64 j∧(∀ i (h1:i<fcode.length) (h2:i<gcode.length),i<j→fcode[i]=gcode[i])∧w5=W4.drewN m) (fun i _=>n3 - (intOf i).toNat)
           case atStart=>exact ⟨0,_,Nat.zero_le _,rfl,by omega,rfl⟩
           case round =>
            obtain ⟨j,m,hj,rfl,hrj,rfl⟩:=hrel
            by_cases hjl:j<n3
            ·rcases F4 with hz | ⟨x2,o2,rfl,hc2⟩
             ·have:=HN3.out;rw [hz] at this;simp at this;omega
             rcases G4 with hz | ⟨x3,o3,rfl,hc3⟩
             ·have:=HM3.out;rw [hz] at this;simp at this;omega
             have jl:j<fcode.length:=by have:=HN3.out;omega
             have jl':j<gcode.length:=by have:=HM3.out;omega
             obtain ⟨i0,i1⟩:=hc2 j jl
             obtain ⟨l0,l1⟩:=hc3 j jl'
             have HN':Hid (fcode[j]≠gcode[j]→decide (s=t)=false):=hid fun h=>HN.out fun e=>by
              have e4:fcode=gcode:=congrArg Fn.code e
              subst e4
              exact h rfl
             have HT':Hid (fcode[j]=gcode[j]→∀ i (h1:i<fcode.length) (h2:i<gcode.length),i<j+1→fcode[i]=gcode[i]):=hid fun h i h1 h2 hij=>by
              rcases Nat.lt_or_ge i j with h3 | h3
              ·exact hrj i h1 h2 h3
              ·obtain rfl:i=j:=by omega
               exact h
             generalize fcode[j]=x at i0 i1 HN' HT'
             generalize gcode[j]=y at l0 l1 HN' HT'
             obtain ⟨xo,xa⟩:=x
             obtain ⟨yo,ya⟩:=y
             simp only at i0 i1 l0 l1
             clear hc2 hc3 hrj
             by_cases ho:xo=yo
             ·subst ho
              by_cases haa:xa=ya
              ·subst haa
               go_wp2
               go_quiet (fail)
               go_wp2
               refine ⟨⟨j+1,_,by omega,by go_num,HT'.out (by simp),rfl⟩,by simp [intOf];omega⟩
              ·have q:(xa != ya)=true:=by simp [haa]
               go_wp2
               go_quiet (fail)
               go_wp2
               go_ret
               exact ⟨by rw [HN'.out (by simp [haa])];rfl,below_draws2 (hbW4 _) _⟩
             ·have q:(xo != yo)=true:=by simp [ho]
              go_wp2
              go_quiet (fail)
              go_wp2
              go_ret
              exact ⟨by rw [HN'.out (by simp [ho])];rfl,below_draws2 (hbW4 _) _⟩
            ·have HE:Hid (∀ j (h1:j<s.funcs.length) (h2:j<t.funcs.length),j<k+1→s.funcs[j]=t.funcs[j]):=hid (HT.out (by
              have e4:fcode=gcode:=List.ext_getElem (by have:=HN3.out;have:=HM3.out;omega) fun i h1 h2=>hrj i h1 h2 (by have:=HN3.out;omega)
              subst ep er el e4
              rfl))
             clear hrj
             go_wp2
             refine ⟨⟨k+1,by omega,by go_num,HE.out,hb24 _⟩,by simp [intOf];omega⟩
          ·have q:((n3:Int) != (m3:Int))=true:=by simp;omega
           have HN':Hid (decide (s=t)=false):=hid (HN.out fun e=>e3 (by rw [HN3.out,HM3.out,show fcode=gcode from congrArg Fn.code e]))
           go_wp2_with (go_at_call 33;first | (refine hI00.mono ?_;rintro e w' ⟨rfl,j1,rfl⟩;clear hI00) | (refine (hI1 _).mono ?_;rintro e w' ⟨rfl,j2,rfl⟩;clear hI1) | (refine (hI2 _).mono ?_;rintro e w' ⟨rfl,j3,rfl⟩;clear hI2))
           go_ret
           exact ⟨by rw [HN'.out];rfl,hbW4 _⟩
         ·rw [decide_eq_false el] at hI2
          have HN':Hid (decide (s=t)=false):=hid (HN.out fun e=>el (congrArg Fn.l e))
          go_wp2_with (go_at_call 33;first | (refine hI00.mono ?_;rintro e w' ⟨rfl,j1,rfl⟩;clear hI00) | (refine (hI1 _).mono ?_;rintro e w' ⟨rfl,j2,rfl⟩;clear hI1) | (refine (hI2 _).mono ?_;rintro e w' ⟨rfl,j3,rfl⟩;clear hI2))
          go_ret
          exact ⟨by rw [HN'.out];rfl,hbW4 _⟩
        ·rw [decide_eq_false er] at hI1
         have HN':Hid (decide (s=t)=false):=hid (HN.out fun e=>er (congrArg Fn.r e))
         go_wp2_with (go_at_call 33;first | (refine hI00.mono ?_;rintro e w' ⟨rfl,j1,rfl⟩;clear hI00) | (refine (hI1 _).mono ?_;rintro e w' ⟨rfl,j2,rfl⟩;clear hI1) | (refine (hI2 _).mono ?_;rintro e w' ⟨rfl,j3,rfl⟩;clear hI2))
         go_ret
         exact ⟨by rw [HN'.out];rfl,hbW4 _⟩
       ·rw [decide_eq_false ep] at hI00
        have HN':Hid (decide (s=t)=false):=hid (HN.out fun e=>ep (congrArg Fn.p e))
        go_wp2_with (go_at_call 33;first | (refine hI00.mono ?_;rintro e w' ⟨rfl,j1,rfl⟩;clear hI00) | (refine (hI1 _).mono ?_;rintro e w' ⟨rfl,j2,rfl⟩;clear hI1) | (refine (hI2 _).mono ?_;rintro e w' ⟨rfl,j3,rfl⟩;clear hI2))
        go_ret
        exact ⟨by rw [HN'.out];rfl,hbW4 _⟩
      ·have HE:Hid (decide (s=t)=true):=hid (decide_eq_true (by
        have e4:s.funcs=t.funcs:=List.ext_getElem (by have:=HN1.out;have:=HM1.out;omega) fun i h1 h2=>hr i h1 h2 (by have:=HN1.out;omega)
        have e5:=HC.out
        cases s;cases t
        simp only at e4 e5
        subst e4 e5
        rfl))
       clear hr
       go_wp2
       go_ret
       exact ⟨by rw [HE.out];rfl,hbw⟩
  ·have q:((N1:Int) != (M1:Int))=true:=by simp;omega
   subst e0
   have HE:Hid (decide (s=t)=false):=hid (decide_eq_false fun e=>e1 (by rw [HN1.out,HM1.out,e]))
   go_enter Tryz.func18,Tryz.ntmps18
   go_wp2
   go_ret
   exact ⟨by rw [HE.out];rfl,by rw [← hW2];exact hb2⟩
 ·have q:((N0:Int) != (M0:Int))=true:=by simp;omega
  have HE:Hid (decide (s=t)=false):=hid (decide_eq_false fun e=>e0 (by rw [HN0.out,HM0.out,e]))
  go_enter Tryz.func18,Tryz.ntmps18
  go_wp2
  go_ret
  exact ⟨by rw [HE.out];rfl,by rw [← hW2];exact hb2⟩
set_option maxRecDepth 100000 in
set_option maxHeartbeats 1000000 in
theorem lints_any (a b:Option Addr)(c d n m:Nat)(ns ms:List Int)(hn:ns.length=n)(hm:ms.length=m)(w:World)(ha:NsAt w.cell? a ns)(hb:NsAt w.cell? b ms)(hl:n≤17592186044416)(hl':m≤17592186044416):Calls Tryz.prog 22 #[.slice a n c,.slice b m d] w fun e w'=>e=.returned (.bool (decide (ns=ms)))∧∃ k,w'=w.drewN k:=by
 by_cases hnm:n=m
 ·subst hnm
  go_enter Tryz.func22,Tryz.ntmps22
  go_wp2
  go_loopw [5] (fun i wr=>∃ k m:Nat,k≤n∧i=.int .i64 k∧(∀ j (h1:j<ns.length) (h2:j<ms.length),j<k→ns[j]=ms[j])∧wr=w.drewN m) (fun i _=>n - (intOf i).toNat)
  case atStart=>exact ⟨0,0,Nat.zero_le _,rfl,by omega,rfl⟩
  case round =>
   obtain ⟨k,m,hk,rfl,hr,rfl⟩:=hrel
   by_cases hlt:k<n
   ·rcases ha with h0 | ⟨b0,off0,rfl,hc0⟩
    ·subst h0;simp at hn;omega
    rcases hb with h0 | ⟨b1,off1,rfl,hc1⟩
    ·subst h0;simp at hm;omega
    have c0:=hc0 k (by omega)
    have d0:=hc1 k (by omega)
    have HN:Hid (ns[k]≠ms[k]→decide (ns=ms)=false):=hid (list_ne (by omega) (by omega))
    have HT:Hid (ns[k]=ms[k]→∀ j (h1:j<ns.length) (h2:j<ms.length),j<k+1→ns[j]=ms[j]):=hid fun h j h1 h2 hjk=>by
     rcases Nat.lt_or_ge j k with h3 | h3
     ·exact hr j h1 h2 h3
     ·obtain rfl:j=k:=by omega
      exact h
    generalize ns[k]=x at c0 HN HT
    generalize ms[k]=y at d0 HN HT
    clear hc0 hc1
    by_cases h1:x=y
    ·subst h1
     go_wp2
     go_quiet (fail)
     go_wp2
     refine ⟨⟨k+1,_,by omega,by go_num,HT.out (by simp),rfl⟩,by simp [intOf];omega⟩
    ·have q:(x != y)=true:=by simp [h1]
     go_wp2
     go_quiet (fail)
     go_wp2
     go_ret
     exact ⟨by rw [HN.out h1];rfl,m+nq,World.drewN_drewN _ _ _⟩
   ·have HE:Hid (decide (ns=ms)=true):=hid (decide_eq_true (List.ext_getElem (by omega) fun j h1 h2=>hr j h1 h2 (by omega)))
    go_wp2
    go_ret
    exact ⟨by rw [HE.out];rfl,m,rfl⟩
 ·have hne:((n:Int) != (m:Int))=true:=by simp;omega
  have hd:decide (ns=ms)=false:=decide_eq_false fun h=>hnm (by rw [← hn,← hm,h])
  go_enter Tryz.func22,Tryz.ntmps22
  go_wp2
  go_ret
  exact ⟨by rw [hd];rfl,0,rfl⟩
def RowEnd (base:Nat)(ns:List Int)(w:World)(e:Ending)(w':World):Prop:=(∃ v,e=.returned v∧w'.ownsRow base 3 1 v ns.length (cellsN ns))∧Below base w w'
theorem cellsN_append (p l:List Int):cellsN (p++l)=cellsN p++cellsN l:=by simp [cellsN]
theorem row_lower {w:World}{base base' n size:Nat}{e:TypeId}{v:Value}{xs:List Value}(h:w.ownsRow base e size v n xs)(hb:base'≤base):w.ownsRow base' e size v n xs:=by
 refine ⟨h.1,?_⟩
 rcases h.2 with h2 | ⟨g,cap,cur,e,hg,r⟩
 ·exact .inl h2
 ·exact .inr ⟨g,cap,cur,e,Nat.le_trans hb hg,r⟩
def SP (B n0 n2:Nat)(v0 v2:Value)(p l:List Int)(listed:Array Bool)(i:Nat)(u:Value)(W:World):Prop :=
 match i with
 | 0=>listed.getD 3 false=true∨∃ g,u=.slice (some ⟨g,0,none⟩) 0 0∧B+1≤g∧W.heap[g]?=some (.cells #[] 3 (0,0))
 | 1=>u=.pointer (some ⟨B,0,none⟩)
 | 2=>u=v0
 | 3=>listed.getD 6 false=true∨W.ownsRow (B+1) 3 1 u n0 (cellsN p)
 | 4=>u=.pointer (some ⟨B,2,none⟩)
 | 5=>u=v2
 | 6=>W.ownsRow (B+1) 3 1 u (n0+n2) (cellsN p++cellsN l)
 | 7=>W.ownsRow (B+1) 3 1 u (n0+n2) (cellsN p++cellsN l)
 | _=>True
theorem getD_more {listed:Array Bool}{i j:Nat}(h:listed.getD j false=true):(listed.setIfInBounds i true).getD j false=true:=by
 rw [getD_set]
 split
 ·rfl
 ·exact h
theorem SP.below {B n0 n2 : Nat} {v0 v2 : Value} {p l : List Int} {listed : Array Bool} {W W' : World} (hb : Below W.heap.size W W') {i : Nat} : ∀ j u, listed.getD j false = true → SP B n0 n2 v0 v2 p l listed j u W → SP B n0 n2 v0 v2 p l (listed.setIfInBounds i true) j u W' := by
  intro j u _ h
  unfold SP at h ⊢
  split at h
  all_goals first
    | exact h
    | exact row_below2 h hb
    | exact h.imp getD_more fun h => row_below2 h hb
    | (refine h.imp getD_more fun h => ?_
       obtain ⟨g, rfl, h1, hg⟩ := h
       exact ⟨g, rfl, h1, by rw [hb.block g (Array.getElem?_eq_some_iff.1 hg).1]; exact hg⟩)
set_option maxRecDepth 100000 in
set_option maxHeartbeats 1000000 in
theorem rslots_any (f:Fn)(v0 v1 v2 v3:Value)(w:World)(hf:FnIs w.cell? f v0 v1 v2 v3)(hff:f.fits)(hpl:f.p.length+f.l.length≤17592186044416):Calls Tryz.prog 129 #[.agg #[v0,v1,v2,v3]] w (RowEnd w.heap.size (f.p++f.l) w):=by
 obtain ⟨⟨a0,c0,rfl,g0⟩,⟨a1,c1,rfl,g1⟩,⟨a2,c2,rfl,g2⟩,⟨a3,c3,rfl,g3⟩⟩:=hf
 obtain ⟨z0,z1,z2,z3⟩:=hff
 have hLies:∀ W,Below w.heap.size w W→Lies W (.slice a0 f.p.length c0) f.p.length (cellsN f.p)∧Lies W (.slice a2 f.l.length c2) f.l.length (cellsN f.l):=fun W hW=>⟨(g0.keep (below_keep hW)).lies c0,(g2.keep (below_keep hW)).lies c2⟩
 have hb1:Below w.heap.size w (w.alloc (.cells #[.slice a0 f.p.length c0,.slice a1 f.r.length c1,.slice a2 f.l.length c2,.slice a3 f.code.length c3] 49)):=(Below.refl _ w).alloc (Nat.le_refl _) _
 have bF:=heap_alloc_new w (.cells #[.slice a0 f.p.length c0,.slice a1 f.r.length c1,.slice a2 f.l.length c2,.slice a3 f.code.length c3] 49)
 have sF:(w.alloc (.cells #[.slice a0 f.p.length c0,.slice a1 f.r.length c1,.slice a2 f.l.length c2,.slice a3 f.code.length c3] 49)).heap.size=w.heap.size+1:=by simp
 go_enter Tryz.func129,Tryz.ntmps129
 go_wp2_with fail
 generalize w.alloc (.cells #[.slice a0 f.p.length c0,.slice a1 f.r.length c1,.slice a2 f.l.length c2,.slice a3 f.code.length c3] 49)=w2 at *
 refine wp_region_each (by kernel_rfl) 10 rfl (by kernel_rfl) (fun _ W=>Below (w.heap.size+1) w2 W) (SP w.heap.size f.p.length f.l.length (.slice a0 f.p.length c0) (.slice a2 f.l.length c2) f.p f.l) ?start ?each ?fin
 case start=>exact (Below.refl _ _).drew
 case each =>
  intro i o ho listed a W hE hnl haf
  have hi:i<8:=(Array.getElem?_eq_some_iff.1 ho).1
  have t1:a.tmps[1]?.getD undef=.pointer (some ⟨w.heap.size,0,none⟩):=hE.rest 1 (rest_of (by kernel_rfl))
  have hG:=hE.glob
  have hsW:w.heap.size+1≤W.heap.size:=by have:=hG.size;omega
  have hoff:=getD_off hnl
  have eF:=(hG.block _ (by omega)).trans bF
  have hL:=hLies W (hb1.trans (hG.mono (by omega)))
  have step:∀ v W',Below W.heap.size W W'→SP w.heap.size f.p.length f.l.length (.slice a0 f.p.length c0) (.slice a2 f.l.length c2) f.p f.l (listed.setIfInBounds i true) i v W'→∃ u,a.put o.dst v=a.put o.dst u∧SP w.heap.size f.p.length f.l.length (.slice a0 f.p.length c0) (.slice a2 f.l.length c2) f.p f.l (listed.setIfInBounds i true) i u W'∧Below (w.heap.size+1) w2 W'∧∀ j u,listed.getD j false=true→SP w.heap.size f.p.length f.l.length (.slice a0 f.p.length c0) (.slice a2 f.l.length c2) f.p f.l listed j u W→SP w.heap.size f.p.length f.l.length (.slice a0 f.p.length c0) (.slice a2 f.l.length c2) f.p f.l (listed.setIfInBounds i true) j u W':=fun v W' hb hv=>⟨v,rfl,hv,hG.trans (hb.mono (by omega)),SP.below hb⟩
  match i,hi,ho,hnl,haf,hoff,step with
  | 0,_,ho,hnl,haf,hoff,step =>
   obtain rfl:=Option.some.inj ho
   exact op_value (v:=.slice (some ⟨W.heap.size,0,none⟩) 0 0) (W':=W.alloc (.cells #[] 3)) (by simp [execOp,go_sem]) (step _ _ ((Below.refl _ W).alloc (Nat.le_refl _) _) (.inr ⟨_,rfl,hsW,heap_alloc_new W _⟩))
  | 1,_,ho,hnl,haf,hoff,step =>
   obtain rfl:=Option.some.inj ho
   exact op_value (v:=.pointer (some ⟨w.heap.size,0,none⟩)) (W':=W) (by simp [execOp,go_sem,t1]) (step _ _ (Below.refl _ _) rfl)
  | 2,_,ho,hnl,haf,hoff,step =>
   obtain rfl:=Option.some.inj ho
   have h:=hE.vals 1 _ 4 rfl (haf ⟨1,.data⟩ (by simp) rfl) rfl
   simp only [SP] at h
   have hc:W.cell? ⟨w.heap.size,0,none⟩=some (.slice a0 f.p.length c0):=by rw [Lib.cell_of_heap eF];rfl
   exact op_value (v:=.slice a0 f.p.length c0) (W':=W) (by simp [execOp,go_sem,h,hc]) (step _ _ (Below.refl _ _) rfl)
  | 3,_,ho,hnl,haf,hoff,step =>
   obtain rfl:=Option.some.inj ho
   have h0:=hE.vals 0 _ 3 rfl (haf ⟨0,.data⟩ (by simp) rfl) rfl
   have h2:=hE.vals 2 _ 5 rfl (haf ⟨2,.data⟩ (by simp) rfl) rfl
   simp only [SP] at h0 h2
   rw [hoff] at h0
   rcases h0 with h0 | ⟨g,hu,hgb,hgl⟩
   ·cases h0
   refine wp_app0 W (.tmp 3) (.tmp 5) 28 rfl elemN_int (w.heap.size+1) g hgb hgl ((eval_tmp _ _).trans hu) _ ((eval_tmp _ _).trans h2) f.p.length (cellsN f.p) hL.1 (cellsN_len _) (cellsN_one _) (by unfold maxLen;omega) (by omega) hsW ?_
   intro v' W' hr' hb'
   exact step _ _ hb' (.inr hr')
  | 4,_,ho,hnl,haf,hoff,step =>
   obtain rfl:=Option.some.inj ho
   exact op_value (v:=.pointer (some ⟨w.heap.size,2,none⟩)) (W':=W) (by simp [execOp,go_sem,t1]) (step _ _ (Below.refl _ _) rfl)
  | 5,_,ho,hnl,haf,hoff,step =>
   obtain rfl:=Option.some.inj ho
   have h:=hE.vals 4 _ 7 rfl (haf ⟨4,.data⟩ (by simp) rfl) rfl
   simp only [SP] at h
   have hc:W.cell? ⟨w.heap.size,2,none⟩=some (.slice a2 f.l.length c2):=by rw [Lib.cell_of_heap eF];rfl
   exact op_value (v:=.slice a2 f.l.length c2) (W':=W) (by simp [execOp,go_sem,h,hc]) (step _ _ (Below.refl _ _) rfl)
  | 6,_,ho,hnl,haf,hoff,step =>
   obtain rfl:=Option.some.inj ho
   have l3:=haf ⟨3,.data⟩ (by simp) rfl
   have h3:=hE.vals 3 _ 6 rfl l3 rfl
   have h5:=hE.vals 5 _ 8 rfl (haf ⟨5,.data⟩ (by simp) rfl) rfl
   simp only [SP] at h3 h5
   rw [hoff] at h3
   rcases h3 with h3 | h3
   ·cases h3
   refine wp_appN W (.tmp 6) (.tmp 8) 28 rfl elemN_int (w.heap.size+1) _ f.p.length (cellsN f.p) (eval_tmp _ _) h3 _ ((eval_tmp _ _).trans h5) f.l.length (cellsN f.l) hL.2 (cellsN_len _) (cellsN_one _) (by unfold maxLen;omega) (by omega) hsW ?_
   intro v' W' hr' hs'
   refine ⟨v',rfl,hr',hG.trans (hs'.below hsW fun j h=>(h3.lt j h).1),?_⟩
   intro j u hj h
   have n7:j≠7:=fun e=>by
    subst e
    have:=hE.closed 7 _ rfl hj ⟨6,.data⟩ (by simp) rfl
    rw [hoff] at this;cases this
   have n6:j≠6:=fun e=>by subst e;rw [hoff] at hj;cases hj
   have s6:(listed.setIfInBounds 6 true).getD 6 false=true:=by rw [getD_set,if_pos ⟨rfl,getD_lt hnl⟩]
   unfold SP at h ⊢
   split at h
   all_goals first
    | exact h
    | exact .inl (getD_more l3)
    | exact .inl s6
    | exact absurd rfl n6
    | exact absurd rfl n7
  | 7,_,ho,hnl,haf,hoff,step =>
   obtain rfl:=Option.some.inj ho
   have h6:=hE.vals 6 _ 9 rfl (haf ⟨6,.data⟩ (by simp) rfl) rfl
   simp only [SP] at h6
   exact op_value (v:=a.tmps[9]?.getD undef) (W':=W) (by simp [execOp,go_sem]) (step _ _ (Below.refl _ _) h6)
 case fin =>
  intro a W hE
  have h7:=hE.vals 7 _ 2 rfl (by rfl) rfl
  have hsz:=hE.tsize
  have hdf:=hE.defers
  have hlo:=hE.glob
  simp only [SP] at h7
  obtain ⟨tm,df⟩:=a
  simp only at hsz hdf h7
  have htm:=arr_out 10 tm (by rw [hsz];rfl) undef
  simp only [List.range,List.range.loop,List.map_cons,List.map_nil] at htm
  generalize tm[2]?.getD undef=v at htm h7
  subst hdf
  rw [htm]
  clear hE htm hsz
  go_wp2_with fail
  go_ret
  refine ⟨⟨v,rfl,?_⟩,hb1.trans (hlo.mono (by omega))⟩
  rw [List.length_append,cellsN_append]
  exact row_lower h7 (by omega)
set_option maxRecDepth 100000 in
set_option maxHeartbeats 1000000 in
theorem grow_nil (n:Nat)(hn:n≤17592186044416)(w:World):Calls Tryz.prog 160 #[.slice none 0 0,.int .i64 n] w (RowEnd w.heap.size [] w):=by
 by_cases h0:n=0
 ·subst h0
  go_enter Tryz.func160,Tryz.ntmps160
  go_wp2_with fail
  go_ret
  exact ⟨⟨_,rfl,⟨rfl,.inl ⟨rfl,rfl⟩⟩⟩,Below.refl _ _⟩
 ·have h1:(0:Int)<(n:Int):=by omega
  have h2:¬ 281474976710656<Builtin.nextslicecap n 0*Tryz.t3.bytes:=by
   rw [nextslicecap_zero (by omega)]
   show ¬ 281474976710656<n*8
   omega
  have h3:¬ (281474976710656:Int)<(n:Int)*(Tryz.t3.bytes:Int):=by
   show ¬ (281474976710656:Int)<(n:Int)*((8:Nat):Int)
   omega
  have hge:=grownCap_ge w n 0 3
  have hcm:grownCap w n 0 3≤maxLen:=grownCap_le_maxLen w n 0 3 (by unfold maxLen;omega)
  unfold grownCap at hge hcm
  go_enter Tryz.func160,Tryz.ntmps160
  go_wp2_with fail
  go_ret
  generalize (Question.appendCap n 0 3).cut (w.tape w.drawn (Question.appendCap n 0 3))=c at *
  refine ⟨⟨_,rfl,⟨rfl,.inr ⟨w.heap.size,c,_,rfl,Nat.le_refl _,heap_alloc_new w _,Nat.zero_le _,hcm,?_,by simp [cellsN]⟩⟩⟩,((Below.refl _ w).alloc (Nat.le_refl _) _).drew⟩
  simp only [Array.size_append,size_zeroCells,List.size_toArray,List.length_cons,List.length_nil]
  omega
set_option maxRecDepth 100000 in
set_option maxHeartbeats 1000000 in
theorem concat_two (a b:Option Addr)(c d:Nat)(p l:List Int)(g:Nat)(w:World)(hg:w.heap[g]?=some (.cells #[.slice a p.length c,.slice b l.length d] 28 (0,0)))(ha:NsAt w.cell? a p)(hb:NsAt w.cell? b l)(hpl:p.length+l.length≤17592186044416):Calls Tryz.prog 124 #[.slice (some ⟨g,0,none⟩) 2 2] w (RowEnd w.heap.size (p++l) w):=by
 obtain ⟨n0,hn0⟩:∃ n,n=p.length:=⟨_,rfl⟩
 obtain ⟨n2,hn2⟩:∃ n,n=l.length:=⟨_,rfl⟩
 rw [← hn0] at hg hpl
 rw [← hn2] at hg hpl
 have k0:w.cell? ⟨g,0,none⟩=some (.slice a n0 c):=by rw [Lib.cell_of_heap hg];rfl
 have k1:w.cell? ⟨g,1,none⟩=some (.slice b n2 d):=by rw [Lib.cell_of_heap hg];rfl
 have H0:=hid hn0
 have H2:=hid hn2
 clear hn0 hn2
 have hsum:IntKind.i64.wrap ((n0:Int)+(n2:Int))=(n0:Int)+(n2:Int):=by rw [IntKind.wrap_i64];omega
 have hG:=grow_nil (n0+n2) (by omega) w
 have hcast:((n0+n2:Nat):Int)=(n0:Int)+(n2:Int):=by omega
 rw [hcast] at hG
 clear hcast
 go_enter Tryz.func124,Tryz.ntmps124
 go_wp2_with fail
 go_loopw [3,11] (fun s i wr=>(i=.int .i64 0∧s=.int .i64 0∨i=.int .i64 1∧s=.int .i64 n0∨i=.int .i64 2∧s=.int .i64 ((n0:Int)+(n2:Int)))∧wr=w) (fun _ i _=>2 - (intOf i).toNat)
 case atStart=>exact ⟨.inl ⟨rfl,rfl⟩,rfl⟩
 case round =>
  obtain ⟨hc,hw⟩:=hrel
  replace hw:=hw.symm
  subst hw
  rcases hc with ⟨rfl,rfl⟩ | ⟨rfl,rfl⟩ | ⟨rfl,rfl⟩
  ·go_wp2_with fail
   exact ⟨⟨.inr (.inl ⟨by go_num,by go_num⟩),by first | rfl | trivial⟩,by simp [intOf]⟩
  ·go_wp2_with fail
   exact ⟨⟨.inr (.inr ⟨by go_num,by go_num⟩),by first | rfl | trivial⟩,by simp [intOf]⟩
  ·go_wp2_with (go_at_call 160;refine hG.mono ?_;rintro e w5 ⟨⟨v,rfl,hr⟩,hb5⟩)
   go_loopw [6,27] (fun v i wr=>∃ n xs,(i=.int .i64 0∧n=0∧xs=[]∨i=.int .i64 1∧n=n0∧xs=cellsN p∨i=.int .i64 2∧n=n0+n2∧xs=cellsN p++cellsN l)∧wr.ownsRow w.heap.size 3 1 v n xs∧Below w.heap.size w wr) (fun _ i _=>2 - (intOf i).toNat)
   case atStart=>exact ⟨0,[],.inl ⟨rfl,rfl,rfl⟩,hr,hb5⟩
   case round =>
    obtain ⟨n,xs,hc,hrow,hbr⟩:=hrel
    have q0:=below_keep hbr _ _ k0
    have q1:=below_keep hbr _ _ k1
    have hL0:=(ha.keep (below_keep hbr)).lies c
    have hL2:=(hb.keep (below_keep hbr)).lies d
    rw [← H0.out] at hL0
    rw [← H2.out] at hL2
    have hl0:(cellsN p).length=n0*1:=by rw [cellsN_len,H0.out]
    have hl2:(cellsN l).length=n2*1:=by rw [cellsN_len,H2.out]
    have hlt:=hrow.lt
    rcases hc with ⟨rfl,rfl,rfl⟩ | ⟨rfl,rfl,rfl⟩ | ⟨rfl,rfl,rfl⟩
    ·go_wp2_with (at_builtin;go_loud (refine wpList_appN _ rfl _ _ _ rfl elemN_int w.heap.size _ 0 [] rfl hrow _ rfl n0 (cellsN p) hL0 hl0 (cellsN_one _) (by unfold maxLen;omega) (by omega) hbr.size ?_);intro v' w6 hr6 hs6)
     exact ⟨⟨n0,cellsN p,.inr (.inl ⟨by go_num,rfl,rfl⟩),by simpa using hr6,hbr.trans (hs6.below hbr.size fun j h=>(hlt j h).1)⟩,by simp [intOf]⟩
    ·go_wp2_with (at_builtin;go_loud (refine wpList_appN _ rfl _ _ _ rfl elemN_int w.heap.size _ n (cellsN p) rfl hrow _ rfl n2 (cellsN l) hL2 hl2 (cellsN_one _) (by unfold maxLen;omega) (by omega) hbr.size ?_);intro v' w6 hr6 hs6)
     exact ⟨⟨_,_,.inr (.inr ⟨by go_num,rfl,rfl⟩),hr6,hbr.trans (hs6.below hbr.size fun j h=>(hlt j h).1)⟩,by simp [intOf]⟩
    ·go_wp2_with fail
     go_ret
     refine ⟨⟨_,rfl,?_⟩,hbr⟩
     rw [List.length_append,cellsN_append,← H0.out,← H2.out]
     exact hrow
set_option maxRecDepth 100000 in
set_option maxHeartbeats 1000000 in
theorem slots_any (f:Fn)(v0 v1 v2 v3:Value)(w:World)(hf:FnIs w.cell? f v0 v1 v2 v3)(hff:f.fits)(hpl:f.p.length+f.l.length≤17592186044416):Calls Tryz.prog 86 #[.agg #[v0,v1,v2,v3]] w (RowEnd w.heap.size (f.p++f.l) w):=by
 obtain ⟨⟨a0,c0,rfl,g0⟩,⟨a1,c1,rfl,g1⟩,⟨a2,c2,rfl,g2⟩,⟨a3,c3,rfl,g3⟩⟩:=hf
 obtain ⟨z0,z1,z2,z3⟩:=hff
 have hC:∀ (W:World),Below w.heap.size w W→∀ g,W.heap[g]?=some (.cells #[.slice a0 f.p.length c0,.slice a2 f.l.length c2] 28 (0,0))→Calls Tryz.prog 124 #[.slice (some ⟨g,0,none⟩) 2 2] W (RowEnd W.heap.size (f.p++f.l) W):=fun W hW g hg=>concat_two a0 a2 c0 c2 f.p f.l g W hg (g0.keep (below_keep hW)) (g2.keep (below_keep hW)) hpl
 go_enter Tryz.func86,Tryz.ntmps86
 go_wp2_with fail
 have hbA:Below w.heap.size w ((w.alloc (.cells #[.slice a0 f.p.length c0,.slice a1 f.r.length c1,.slice a2 f.l.length c2,.slice a3 f.code.length c3] 49)).alloc (.cells #[.slice a0 f.p.length c0,.slice a2 f.l.length c2] 28)):=((Below.refl _ w).alloc (Nat.le_refl _) _).alloc (by simp) _
 refine (hC _ hbA (w.heap.size+1) (by have:=heap_alloc_new (w.alloc (.cells #[.slice a0 f.p.length c0,.slice a1 f.r.length c1,.slice a2 f.l.length c2,.slice a3 f.code.length c3] 49)) (.cells #[.slice a0 f.p.length c0,.slice a2 f.l.length c2] 28);simpa using this)).mono ?_
 rintro e w5 ⟨⟨v,rfl,hr⟩,hb5⟩
 have hs:=hbA.size
 generalize (w.alloc (.cells #[.slice a0 f.p.length c0,.slice a1 f.r.length c1,.slice a2 f.l.length c2,.slice a3 f.code.length c3] 49)).alloc (.cells #[.slice a0 f.p.length c0,.slice a2 f.l.length c2] 28)=W at hbA hb5 hr hs
 go_wp2_with fail
 go_ret
 exact ⟨⟨v,rfl,row_lower hr hs⟩,hbA.trans (hb5.mono hs)⟩
end Go.Proofs.YtpmlnkjamhelnaaGreat
