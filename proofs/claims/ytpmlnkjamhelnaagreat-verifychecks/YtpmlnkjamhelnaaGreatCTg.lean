/- The document's Right. The document's Check of layer 7: a round of its loop. The document's Match. -/
import Derived.Test.YtpmlnkjamhelnaaGreatUE
import Derived.Test.YtpmlnkjamhelnaaGreatXE
import Derived.Test.YtpmlnkjamhelnaaGreatTS
import Derived.Test.YtpmlnkjamhelnaaGreatST
import Derived.Deep.RegionLaw
import Derived.Shelf.Abstract
import Derived.Test.YtpmlnkjamhelnaaGreatPlain
import Derived.Test.YtpmlnkjamhelnaaGreatYE
namespace Go.Proofs.YtpmlnkjamhelnaaGreat
open Go.RowKit
set_option maxRecDepth 100000 in
set_option maxHeartbeats 2000000 in
theorem rright4_any (s:Scr)(V0 V1:Value)(w:World)(hs:ScIs w.cell? s V0 V1)(hsf:s.fits)(hI64:∀ f ∈ s.funcs,∀ x ∈ f.code,-9223372036854775808≤x.2∧x.2≤9223372036854775807):Calls Tryz.prog 24 #[.agg #[V0,V1]] w fun e w'=>e=.returned (.bool s.right)∧Below w.heap.size w w':=by
 have hRC:∀ (f:Fn) v0 v1 v2 v3 (W:World),(∀ a v,w.cell? a=some v→W.cell? a=some v)→FnIs W.cell? f v0 v1 v2 v3→f.fits→f ∈ s.funcs→Calls Tryz.prog 56 #[.agg #[V0,V1],.agg #[v0,v1,v2,v3]] W fun e w'=>e=.returned (.bool (Fn.right s.consts.length s.funcs.length f))∧Below W.heap.size W w':=fun f v0 v1 v2 v3 W hk h h' hm=>rrightFunc_any s f V0 V1 v0 v1 v2 v3 W (hs.keep hk) h hsf h' (hI64 f hm)
 clear hI64
 obtain ⟨⟨A0,C0,rfl,h0⟩,⟨A1,C1,rfl,h1⟩⟩:=hs
 obtain ⟨z0,z1,z2,z3⟩:=hsf
 obtain ⟨nc,hnc⟩:∃ n,n=s.consts.length:=⟨_,rfl⟩
 obtain ⟨nf,hnf⟩:∃ n,n=s.funcs.length:=⟨_,rfl⟩
 have HR:Hid (s.right=(decide (nc≤32) && decide (1≤nf) && decide (nf≤16) && s.consts.all (fun c=>decide (c.length≤256)) && s.funcs.all (Fn.right nc nf))):=hid (by rw [hnc,hnf];rfl)
 rw [← hnc] at z0 hRC ⊢
 rw [← hnf] at z1 hRC ⊢
 have HC:=hid hnc
 have HF:=hid hnf
 clear hnc hnf
 obtain ⟨W2,hW2⟩:∃ W2,W2=w.alloc (.cells #[.slice A0 nc C0,.slice A1 nf C1] 27):=⟨_,rfl⟩
 have hb2:Below w.heap.size w W2:=by rw [hW2];exact (Below.refl _ w).alloc (Nat.le_refl _) _
 have bA:W2.heap[w.heap.size]?=some (.cells #[.slice A0 nc C0,.slice A1 nf C1] 27 (0,0)):=by rw [hW2];exact heap_alloc_new w _
 have lA:=(Array.getElem?_eq_some_iff.1 bA).1
 have pA0:W2.cell? ⟨w.heap.size,0,none⟩=some (.slice A0 nc C0):=by rw [Lib.cell_of_heap bA];rfl
 have pA1:W2.cell? ⟨w.heap.size,1,none⟩=some (.slice A1 nf C1):=by rw [Lib.cell_of_heap bA];rfl
 replace h0:=h0.keep (below_keep hb2)
 replace h1:=h1.keep (below_keep hb2)
 by_cases d0:nc≤32
 ·by_cases d1:1≤nf
  ·by_cases d2:nf≤16
   ·have HR':Hid (s.right=(s.consts.all (fun c=>decide (c.length≤256)) && s.funcs.all (Fn.right nc nf))):=hid (by rw [HR.out];simp [d0,d1,d2])
    clear HR
    go_enter Tryz.func24,Tryz.ntmps24
    go_wp2_with fail
    rw [← hW2]
    clear hW2
    go_loopw [3] (fun i wr=>∃ k:Nat,k≤nc∧i=.int .i64 k∧Hid (∀ (j:Nat) (h:j<s.consts.length),j<k→decide (s.consts[j].length≤256)=true)∧wr=W2) (fun i _=>nc - (intOf i).toNat)
    case atStart=>exact ⟨0,Nat.zero_le _,rfl,hid (by omega),rfl⟩
    case round =>
     obtain ⟨k,hk,rfl,hr,hw⟩:=hrel
     replace hw:=hw.symm
     subst hw
     by_cases hlt:k<nc
     ·rcases h0 with hz | ⟨x0,o0,rfl,hc0⟩
      ·have:=HC.out;rw [hz] at this;simp at this;omega
      have kl:k<s.consts.length:=by have:=HC.out;omega
      have q0:=hc0 k kl
      have hzz:=z3 s.consts[k] (by simp)
      have HS:Hid (decide (s.consts[k].length≤256)=false→s.right=false):=hid fun h=>by rw [HR'.out,all_stop (p:=fun (c:List UInt8)=>decide (c.length≤256)) kl h];rfl
      have HT:Hid (decide (s.consts[k].length≤256)=true→∀ (j:Nat) (h:j<s.consts.length),j<k+1→decide (s.consts[j].length≤256)=true):=hid fun h j h1 hjk=>by
       rcases Nat.lt_or_ge j k with h3 | h3
       ·exact hr.out j h1 h3
       ·obtain rfl:j=k:=by omega
        exact h
      generalize s.consts[k]=x at q0 HS HT hzz
      clear hc0
      by_cases hx:x.length≤256
      ·have HE:=hid (HT.out (decide_eq_true hx))
       clear HS HT
       go_wp2_with fail
       exact ⟨⟨k+1,by omega,by go_num,HE,by first | rfl | trivial⟩,by simp [intOf];omega⟩
      ·have hx':256<x.length:=by omega
       have HE:=hid (HS.out (decide_eq_false hx))
       clear HS HT
       go_wp2_with fail
       go_ret
       exact ⟨by rw [HE.out];rfl,hb2⟩
     ·have HA:Hid (s.right=s.funcs.all (Fn.right nc nf)):=hid (by
       have:s.consts.all (fun c=>decide (c.length≤256))=true:=List.all_eq_true.2 fun z hz=>by
        obtain ⟨i,hi,rfl⟩:=List.getElem_of_mem hz
        exact hr.out i hi (by have:=HC.out;omega)
       rw [HR'.out,this]
       rfl)
      clear hr HR'
      go_wp2_with fail
      go_loopw [4] (fun i w5=>∃ k:Nat,k≤nf∧i=.int .i64 k∧Hid (∀ (j:Nat) (h:j<s.funcs.length),j<k→Fn.right nc nf s.funcs[j]=true)∧Below W2.heap.size W2 w5) (fun i _=>nf - (intOf i).toNat)
      case atStart=>exact ⟨0,Nat.zero_le _,rfl,hid (by omega),Below.refl _ _⟩
      case round =>
       obtain ⟨k,hk,rfl,hr,hbr⟩:=hrel
       have hbw:=hb2.trans (hbr.mono hb2.size)
       have eA:=(hbr.block _ lA).trans bA
       have k4:wr.cell? ⟨w.heap.size,0,none⟩=some (.slice A0 nc C0):=by rw [Lib.cell_of_heap eA];rfl
       have k5:wr.cell? ⟨w.heap.size,1,none⟩=some (.slice A1 nf C1):=by rw [Lib.cell_of_heap eA];rfl
       clear eA
       by_cases hlt:k<nf
       ·rcases h1 with hz | ⟨x0,o0,rfl,hc0⟩
        ·have:=HF.out;rw [hz] at this;simp at this;omega
        have kl:k<s.funcs.length:=by have:=HF.out;omega
        obtain ⟨v0,v1,v2,v3,q0,q1,q2,q3,hfn⟩:=hc0 k kl
        have ff:=z2 s.funcs[k] (by simp)
        have HS:Hid (Fn.right nc nf s.funcs[k]=false→s.right=false):=hid fun h=>by rw [HA.out,all_stop kl h]
        have HT:Hid (Fn.right nc nf s.funcs[k]=true→∀ (j:Nat) (h:j<s.funcs.length),j<k+1→Fn.right nc nf s.funcs[j]=true):=hid fun h j h1 hjk=>by
         rcases Nat.lt_or_ge j k with h3 | h3
         ·exact hr.out j h1 h3
         ·obtain rfl:j=k:=by omega
          exact h
        have hm:s.funcs[k] ∈ s.funcs:=by simp
        generalize s.funcs[k]=f at hfn HS HT ff hm
        have hkp:=below_keep hbr
        replace q0:=hkp _ _ q0
        replace q1:=hkp _ _ q1
        replace q2:=hkp _ _ q2
        replace q3:=hkp _ _ q3
        replace hfn:=hfn.keep hkp
        clear hc0 hkp
        have hCall:=hRC f v0 v1 v2 v3 wr.drew (below_keep hbw.drew) hfn ff hm
        obtain ⟨⟨fa0,fc0,rfl,F0⟩,⟨fa1,fc1,rfl,F1⟩,⟨fa2,fc2,rfl,F2⟩,⟨fa3,fc3,rfl,F3⟩⟩:=hfn
        clear hRC hm F0 F1 F2 F3
        generalize Fn.right nc nf f=ok at hCall HS HT
        generalize f.p.length=n0 at *
        generalize f.r.length=n1 at *
        generalize f.l.length=n2 at *
        generalize f.code.length=n3 at *
        obtain ⟨S,hS⟩:∃ S:World→Prop,S=(fun W=>W.cell? ⟨w.heap.size,0,none⟩=some (.slice A0 nc C0)∧W.cell? ⟨w.heap.size,1,none⟩=some (.slice (some ⟨x0,o0,none⟩) nf C1)∧W.cell? ⟨x0,o0+k*4,none⟩=some (.slice fa0 n0 fc0)∧W.cell? ⟨x0,o0+k*4+1,none⟩=some (.slice fa1 n1 fc1)∧W.cell? ⟨x0,o0+k*4+2,none⟩=some (.slice fa2 n2 fc2)∧W.cell? ⟨x0,o0+k*4+3,none⟩=some (.slice fa3 n3 fc3)):=⟨_,rfl⟩
        have hSk:∀ W,Below wr.heap.size wr W→S W:=fun W hW=>by
         rw [hS]
         have hk:=below_keep hW
         exact ⟨hk _ _ k4,hk _ _ k5,hk _ _ q0,hk _ _ q1,hk _ _ q2,hk _ _ q3⟩
        rw [hS] at hSk
        clear hS S
        cases ok with
        | false =>
         have HE:=hid (HS.out rfl)
         clear HS HT
         go_wp2_with fail
         go_region_held3 (fun W=>W.cell? ⟨w.heap.size,0,none⟩=some (.slice A0 nc C0)∧W.cell? ⟨w.heap.size,1,none⟩=some (.slice (some ⟨x0,o0,none⟩) nf C1)∧W.cell? ⟨x0,o0+k*4,none⟩=some (.slice fa0 n0 fc0)∧W.cell? ⟨x0,o0+k*4+1,none⟩=some (.slice fa1 n1 fc1)∧W.cell? ⟨x0,o0+k*4+2,none⟩=some (.slice fa2 n2 fc2)∧W.cell? ⟨x0,o0+k*4+3,none⟩=some (.slice fa3 n3 fc3)) (first | go_keep | exact hSk _ ((Below.refl _ wr).drew.trans hb5)) (first | (go_at_call 56;refine hCall.mono ?_;rintro e w5 ⟨rfl,hb5⟩))
         have hbw5:=hbw.drew.trans (hb5.mono hbw.drew.size)
         go_wp2_with fail
         go_ret
         exact ⟨by rw [HE.out];rfl,hbw5⟩
        | true =>
         have HE:=hid (HT.out rfl)
         clear HS HT
         go_wp2_with fail
         go_region_held3 (fun W=>W.cell? ⟨w.heap.size,0,none⟩=some (.slice A0 nc C0)∧W.cell? ⟨w.heap.size,1,none⟩=some (.slice (some ⟨x0,o0,none⟩) nf C1)∧W.cell? ⟨x0,o0+k*4,none⟩=some (.slice fa0 n0 fc0)∧W.cell? ⟨x0,o0+k*4+1,none⟩=some (.slice fa1 n1 fc1)∧W.cell? ⟨x0,o0+k*4+2,none⟩=some (.slice fa2 n2 fc2)∧W.cell? ⟨x0,o0+k*4+3,none⟩=some (.slice fa3 n3 fc3)) (first | go_keep | exact hSk _ ((Below.refl _ wr).drew.trans hb5)) (first | (go_at_call 56;refine hCall.mono ?_;rintro e w5 ⟨rfl,hb5⟩))
         have hbr5:=hbr.drew.trans (hb5.mono hbr.drew.size)
         go_wp2_with fail
         exact ⟨⟨k+1,by omega,by go_num,HE,hbr5⟩,by simp [intOf];omega⟩
       ·have HE:Hid (s.right=true):=hid (by
         rw [HA.out]
         exact List.all_eq_true.2 fun z hz=>by
          obtain ⟨i,hi,rfl⟩:=List.getElem_of_mem hz
          exact hr.out i hi (by have:=HF.out;omega))
        go_wp2_with fail
        go_ret
        exact ⟨by rw [HE.out];rfl,hbw⟩
   ·have HE:Hid (s.right=false):=hid (by rw [HR.out];simp [d2])
    go_enter Tryz.func24,Tryz.ntmps24
    go_wp2_with fail
    go_ret
    exact ⟨by rw [HE.out];rfl,by rw [← hW2];exact hb2⟩
  ·have HE:Hid (s.right=false):=hid (by rw [HR.out];simp [d1])
   have d1':(nf:Int)<1:=by omega
   go_enter Tryz.func24,Tryz.ntmps24
   go_wp2_with fail
   go_ret
   exact ⟨by rw [HE.out];rfl,by rw [← hW2];exact hb2⟩
 ·have HE:Hid (s.right=false):=hid (by rw [HR.out];simp [d0])
  go_enter Tryz.func24,Tryz.ntmps24
  go_wp2_with fail
  go_ret
  exact ⟨by rw [HE.out];rfl,by rw [← hW2];exact hb2⟩
end Go.Proofs.YtpmlnkjamhelnaaGreat
namespace Go.Proofs.YtpmlnkjamhelnaaGreat
open Go.RowKit Go.Shelf
structure CkX (fs:List Fn)(g:Fn)(V0:Value)(a1:Option Addr)(c1 fl Sb Fb:Nat)(u0 u1 u2 u3:Value)(w V:World):Prop where
 s0:V.cell? ⟨Sb,0,none⟩=some V0
 s1:V.cell? ⟨Sb,1,none⟩=some (.slice a1 fl c1)
 f0:V.cell? ⟨Fb,0,none⟩=some u0
 f1:V.cell? ⟨Fb,1,none⟩=some u1
 f2:V.cell? ⟨Fb,2,none⟩=some u2
 f3:V.cell? ⟨Fb,3,none⟩=some u3
 fat:FsAt V.cell? a1 fs
 fn:FnIs V.cell? g u0 u1 u2 u3
 bel:Below w.heap.size w V
theorem CkX.below {fs:List Fn}{g:Fn}{V0:Value}{a1:Option Addr}{c1 fl Sb Fb:Nat}{u0 u1 u2 u3:Value}{w V V':World}(h:CkX fs g V0 a1 c1 fl Sb Fb u0 u1 u2 u3 w V)(hb:Below V.heap.size V V'):CkX fs g V0 a1 c1 fl Sb Fb u0 u1 u2 u3 w V':=by
 have k:=below_keep hb
 exact ⟨k _ _ h.s0,k _ _ h.s1,k _ _ h.f0,k _ _ h.f1,k _ _ h.f2,k _ _ h.f3,h.fat.keep k,h.fn.keep k,h.bel.trans (hb.mono h.bel.size)⟩
theorem box_md {W W':World}{b:Nat}{cs:Array Value}(h:W.heap[b]?=some (.cells cs 74 (0,0)))(m:Md W W'):W'.heap[b]?=some (.cells cs 74 (0,0)):=m.2 _ _ _ _ (by decide) (by decide) h
structure DX (fs:List Fn)(g:Fn)(V0:Value)(a1:Option Addr)(c1 fl Sb Fb:Nat)(u0 u1 u2 u3:Value)(w:World)(X:Nat)(x:Int × Int)(W:World):Prop where
 k:CkX fs g V0 a1 c1 fl Sb Fb u0 u1 u2 u3 w W
 x:W.heap[X]?=some (.cells #[.int .i64 x.1,.int .i64 x.2] 74 (0,0))
theorem DX.below {fs:List Fn}{g:Fn}{V0:Value}{a1:Option Addr}{c1 fl Sb Fb:Nat}{u0 u1 u2 u3:Value}{w:World}{X:Nat}{x:Int × Int}{W W':World}(h:DX fs g V0 a1 c1 fl Sb Fb u0 u1 u2 u3 w X x W)(hb:Below W.heap.size W W'):DX fs g V0 a1 c1 fl Sb Fb u0 u1 u2 u3 w X x W':=⟨h.k.below hb,(hb.block _ (blk_lt h.x)).trans h.x⟩
theorem DX.xc {fs:List Fn}{g:Fn}{V0:Value}{a1:Option Addr}{c1 fl Sb Fb:Nat}{u0 u1 u2 u3:Value}{w:World}{X:Nat}{x:Int × Int}{W:World}(h:DX fs g V0 a1 c1 fl Sb Fb u0 u1 u2 u3 w X x W):W.cell? ⟨X,0,none⟩=some (.int .i64 x.1)∧W.cell? ⟨X,1,none⟩=some (.int .i64 x.2):=by
 rw [Lib.cell_of_heap h.x,Lib.cell_of_heap h.x]
 exact ⟨rfl,rfl⟩
theorem round_step {fs:List Fn}{g:Fn}{V0:Value}{a1:Option Addr}{c1 Sb Fb:Nat}{u0 u1 u2 u3:Value}{w W4:World}{B X:Nat}{x:Int × Int}{av ov:Value}{p:List Int}{D:List DBk}{R:List (List Int)}{vs ds:List Value}{la:Option Addr}{lc:Nat}(hx:InsR fs (g.p++g.l) x)(hh:HeadsR fs)(bf:fs.length≤16)(bsl:g.p.length+g.l.length≤16)(hgf:g.fits)(hpl:p.length≤32)(w6:World)
  (h:DM g.code.length B W4 av ov p D R vs ds la lc w6) (hX:DX fs g V0 a1 c1 fs.length Sb Fb u0 u1 u2 u3 w X x w6) :
  Calls Tryz.prog 90 #[.agg #[V0,.slice a1 fs.length c1],.agg #[u0,u1,u2,u3],.agg #[.int .i64 x.1,.int .i64 x.2],.slice la p.length lc] w6 fun e w7=>∃ qa ql qc,e=.returned (.tuple #[.slice qa ql qc,.int .i64 (stepW fs (g.p++g.l) x p).1]) ∧
   (w7.cell? ⟨X,0,none⟩=some (.int .i64 x.1)∧w7.cell? ⟨X,1,none⟩=some (.int .i64 x.2)∧w7.cell? ⟨Fb,3,none⟩=some u3)∧Hid (DX fs g V0 a1 c1 fs.length Sb Fb u0 u1 u2 u3 w X x w7∧((stepW fs (g.p++g.l) x p).1=0→ql=(stepW fs (g.p++g.l) x p).2.length∧DM g.code.length B W4 av ov (stepW fs (g.p++g.l) x p).2 D R vs ds qa qc w7)):=by
 refine (rstep7_any x hx p V0 u0 u1 u2 u3 a1 c1 la p.length lc rfl (by omega) h.cap w6 h.nl.at' hX.k.fat hX.k.fn hgf (by rw [List.length_append];omega) (by omega) hh).mono fun e w7 ⟨qa,ql,qc,h1,h2,h3⟩=>?_
 have hX7:=hX.below h3
 refine ⟨qa,ql,qc,h1,⟨hX7.xc.1,hX7.xc.2,hX7.k.f3⟩,hid7 ⟨hX7,fun h0=>?_⟩⟩
 obtain ⟨q1,q2,q3⟩:=h2 h0
 exact ⟨q1,(h.below h3).stack ((ns_in_row q3).low h.siz) (by rw [← q1];exact q2)⟩
theorem round_must {fs:List Fn}{g:Fn}{V0:Value}{a1 a3:Option Addr}{c1 c3 fl Sb Fb ob oc m:Nat}{u0 u1 u2:Value}{w W4:World}{B X:Nat}{n A:Int}{av:Value}{q:List Int}{D:List DBk}{R:List (List Int)}{vs ds:List Value}{qa:Option Addr}{ql qc:Nat}(hn:n=50∨n=52)(hm:D.length=m)(bm:m≤1000)(hD:D≠[])(hql:q.length=ql)(bq:ql≤1000)(w7:World)
  (h:DM g.code.length B W4 av (.slice (some ⟨ob,0,none⟩) m oc) q D R vs ds qa qc w7) (hX:DX fs g V0 a1 c1 fl Sb Fb u0 u1 u2 (.slice a3 g.code.length c3) w X (n,A) w7) :
  Calls Tryz.prog 91 #[.slice a3 g.code.length c3,.slice (some ⟨ob,0,none⟩) m oc,.agg #[.int .i64 n,.int .i64 A],.slice qa ql qc] w7 fun e w8=>e=.returned (.int .i64 (mustS (opA g.code) D n q))∧w8.cell? ⟨X,0,none⟩=some (.int .i64 n)∧Hid (DX fs g V0 a1 c1 fl Sb Fb u0 u1 u2 (.slice a3 g.code.length c3) w X (n,A) w8∧DM g.code.length B W4 av (.slice (some ⟨ob,0,none⟩) m oc) q D R vs ds qa qc w8):=by
 subst hm
 have hat:=h.dcs.at' h.orow
 have hop:∀ j (hj:j<g.code.length),g.code[j].1=opA g.code j:=fun j hj=>(ops_at hj).symm
 have hfin:∀ e w8,MustEnd (mustS (opA g.code) D n q) w7 e w8→e=.returned (.int .i64 (mustS (opA g.code) D n q))∧w8.cell? ⟨X,0,none⟩=some (.int .i64 n)∧Hid (DX fs g V0 a1 c1 fl Sb Fb u0 u1 u2 (.slice a3 g.code.length c3) w X (n,A) w8∧DM g.code.length B W4 av (.slice (some ⟨ob,0,none⟩) D.length oc) q D R vs ds qa qc w8):=fun e w8 ⟨h1,h2⟩=>⟨h1,(hX.below h2).xc.1,hid7 ⟨hX.below h2,h.below h2⟩⟩
 have hc:IsAt w7.cell? a3 g.code:=by
  obtain ⟨_,_,_,⟨a,c,e,hh⟩⟩:=hX.k.fn
  cases e
  exact hh
 rcases hn with rfl | rfl
 ·rcases List.eq_nil_or_concat D with rfl | ⟨M,d,rfl⟩
  ·exact absurd rfl hD
  rw [List.concat_eq_append] at *
  exact (must_end (opA g.code) g.code.length M d A q _ ob oc _ (by simp) bm qa ql qc hql bq w7 hat h.nl.at').mono hfin
 ·exact (must_leave (opA g.code) g.code hop D A q a3 c3 ob oc g.code.length _ rfl rfl bm qa ql qc hql bq w7 hc hat h.nl.at').mono hfin
theorem round_plain {fs:List Fn}{g:Fn}{A0:Int × List (List Int)}{i:Nat}{x:Int × Int}{p:List Int}{D:List DBk}{R:List (List Int)}(hh:HeadsR fs)(hil:i<g.code.length)(hx:g.code[i]=x)(hs:standS x.1 (stk (opA g.code) i)=true)(hlen:p.length≤32)(hobs:OBs (D.map (DBk.ob (opA g.code))))(hgo:Goes (D.map (DBk.ob (opA g.code))) (stk (opA g.code) i))(hcnt:R.length=i)(hrun:A0=chkFrom fs (g.p++g.l) g.r (g.code.drop i) p (D.map (DBk.ob (opA g.code))) R) :
  ((stepW fs (g.p++g.l) x p).1≠0→A0=((stepW fs (g.p++g.l) x p).1,[])) ∧
  ((stepW fs (g.p++g.l) x p).1=0→dMust (opA g.code) x.1 (stepW fs (g.p++g.l) x p).2 D≠0→A0=(dMust (opA g.code) x.1 (stepW fs (g.p++g.l) x p).2 D,[])) ∧
  ((stepW fs (g.p++g.l) x p).1=0→dMust (opA g.code) x.1 (stepW fs (g.p++g.l) x p).2 D=0→32<(dTurn x.1 i (stepW fs (g.p++g.l) x p).2 D).1.length→A0=(32,[])) ∧
  ((stepW fs (g.p++g.l) x p).1=0→dMust (opA g.code) x.1 (stepW fs (g.p++g.l) x p).2 D=0→¬ 32<(dTurn x.1 i (stepW fs (g.p++g.l) x p).2 D).1.length→∀ B W4 av ov vs ds la lc W,DM g.code.length B W4 av ov (dTurn x.1 i (stepW fs (g.p++g.l) x p).2 D).1 (dTurn x.1 i (stepW fs (g.p++g.l) x p).2 D).2 (R++[p]) vs ds la lc W→DI fs g A0 B W4 av ov (i+1) (dTurn x.1 i (stepW fs (g.p++g.l) x p).2 D).1 (dTurn x.1 i (stepW fs (g.p++g.l) x p).2 D).2 (R++[p]) vs ds la lc W):=by
 have hop:opA g.code i=x.1:=by rw [← hx];exact ops_at hil
 have hrun2:A0=if (passW fs (g.p++g.l) x p (D.map (DBk.ob (opA g.code)))).1=0 then chkFrom fs (g.p++g.l) g.r (g.code.drop (i+1)) (passW fs (g.p++g.l) x p (D.map (DBk.ob (opA g.code)))).2.1 (passW fs (g.p++g.l) x p (D.map (DBk.ob (opA g.code)))).2.2 (R++[p]) else ((passW fs (g.p++g.l) x p (D.map (DBk.ob (opA g.code)))).1,[]):=by
  rw [hrun,List.drop_eq_getElem_cons hil,hx,chkFrom]
 have hdp:=doc_pass (fs:=fs) (sl:=g.p++g.l) (op:=opA g.code) (x:=x) (k:=i) hop p D
 have hok:=pass_ok (sl:=g.p++g.l) hh hlen hobs hgo hs (i:Int)
 refine ⟨fun h0=>?_,fun h0 h1=>?_,fun h0 h1 h2=>?_,fun h0 h1 h2 B W4 av ov vs ds la lc W hM=>?_⟩
 ·rw [if_pos h0] at hdp
  rw [hrun2,hdp]
  exact if_neg h0
 ·rw [if_neg (by simpa using h0),if_pos h1] at hdp
  rw [hrun2,hdp]
  exact if_neg h1
 ·rw [if_neg (by simpa using h0),if_neg (by simpa using h1),if_pos h2] at hdp
  rw [hrun2,hdp]
  rfl
 ·rw [if_neg (by simpa using h0),if_neg (by simpa using h1),if_neg h2] at hdp
  rw [hdp] at hrun2 hok
  obtain ⟨k1,k2,k3⟩:=hok rfl
  refine ⟨hM,k1,k2,?_,by simp [hcnt],?_⟩
  ·rw [stk,hop];exact k3
  ·rw [hrun2];rfl
end Go.Proofs.YtpmlnkjamhelnaaGreat
namespace Go.Proofs.YtpmlnkjamhelnaaGreat
open Go.RowKit
theorem fill_all (n:Nat):fillS n n=List.replicate n (-1):=by simp [fillS]
theorem fill_next {n k:Nat}(hk:k<n):(fillS n k).set k (-1)=fillS n (k+1):=by
 refine List.ext_getElem (by simp [fillS];omega) fun j h1 h2=>?_
 rw [List.getElem_set]
 simp only [fillS,List.getElem_append,List.length_replicate,List.getElem_replicate]
 by_cases h:k=j
 ·subst h;rw [if_pos rfl,dif_pos (by omega)]
 ·rw [if_neg h]
  by_cases h3:j<k
  ·rw [dif_pos h3,dif_pos (by omega)]
  ·rw [dif_neg h3,dif_neg (by omega)]
theorem fill_len {n k:Nat}(hk:k≤n):(fillS n k).length=n:=by simp [fillS];omega
theorem make_run (n:Nat)(bn:n≤1000000)(w:World):(Instr.makeSlice 28 (.int .i64 (n:Int)) (.int .i64 (n:Int))).run Tryz.prog w=.ok (.slice (some ⟨w.heap.size,0,none⟩) n n) (w.alloc (.cells (cellsN (fillS n 0)).toArray 3)):=by
 obtain ⟨i0,hi,hz0,hz1,hz2⟩:=info_parts (show (Tryz.prog.info? 3).map (fun i=>(i.zero,i.size,i.bytes))=some (some (.int .i64 0),1,8) by kernel_rfl)
 have hr:=run_make (P:=Tryz.prog) w 28 3 i0 (.int .i64 0) Tryz.underlying28 hi hz0 .i64 .i64 (n:Int) (n:Int) (by omega) (Int.le_refl _) (by rw [hz2];omega) (by omega)
 rw [hr,hz1]
 simp only [Int.toNat_natCast,Nat.mul_one]
 have e:(madeCells (Value.cells (.int .i64 0)) n)=(cellsN (fillS n 0)).toArray:=by
  apply Array.toList_inj.1
  rw [show Value.cells (.int .i64 0)=#[.int .i64 0] from rfl,toList_madeCells_one]
  simp [cellsN,fillS]
 rw [e]
theorem NumBlk.get {g:Nat}{ms:List Int}{W:World}(h:NumBlk g ms W){j:Nat}(hj:j<ms.length):W.cell? ⟨g,j,none⟩=some (.int .i64 (gI ms j)):=by
 have:=(h.at j hj).1
 rwa [gI,List.getD_eq_getElem?_getD,List.getElem?_eq_getElem hj]
theorem closeS_lt {op:Nat→Int}{f:Bool}:∀ (m j d:Nat) (o:Int),o<(j:Int)→(closeS op f m j d o).2=-1∨(closeS op f m j d o).1<(closeS op f m j d o).2
 | 0,j,d,o,_=>.inl rfl
 | m+1,j,d,o,h=>by
  have ih:∀ d o,_:=closeS_lt (op:=op) (f:=f) m (j+1)
  rw [closeS]
  split
  ·exact ih _ _ (by omega)
  split
  ·split
   ·split
    ·exact .inl rfl
    ·exact ih _ _ (by omega)
   ·exact ih _ _ (by omega)
  split
  ·split
   ·exact .inr h
   ·exact ih _ _ (by omega)
  ·exact ih _ _ (by omega)
theorem cell_same {w W:World}{a:Addr}(h:W.heap[a.block]?=w.heap[a.block]?):W.cell? a=w.cell? a:=by
 unfold World.cell?
 rw [h]
theorem th_start {op:Nat→Int}{n q:Nat}(N:Nest op n)(hq:q<n)(h:op q=52):(thS op n q).set q (-1)=thS op n q:=by
 have e:gI (thS op n q) q=-1:=by
  rw [thS_get hq,if_neg (by omega)]
  exact docOth N n (Nat.le_refl _) q hq (by unfold Opn;omega) (by omega) (by omega)
 have hl:=thS_len op n q
 rw [gI,List.getD_eq_getElem?_getD,List.getElem?_eq_getElem (by omega)] at e
 simp only [Option.getD_some] at e
 rw [← e,List.set_getElem_self]
theorem acc_next {op:Nat→Int}{ms ss:List Int}{t:Nat}(ht:t<ss.length):accS op ms (ss.take (t+1))=if op ss[t].toNat=51 then gI ms ss[t].toNat else accS op ms (ss.take t):=by
 rw [List.take_succ_eq_append_getElem ht,accS,List.foldl_append]
 rfl
theorem stk_starts {op:Nat→Int}{n q:Nat}(N:Nest op n)(hq:q≤n):∀ t (h:t<((stk op q).map Blk.s).length),∃ s:Nat,((stk op q).map Blk.s)[t]=s∧s<q:=by
 intro t h
 rw [List.getElem_map]
 obtain ⟨A,R,hA⟩:=List.append_of_mem (List.getElem_mem (l:=stk op q) (by simpa using h))
 obtain ⟨s,p1,p2,_⟩:=(N.ci q hq).blk A _ R hA
 exact ⟨s,p1,p2⟩
theorem stk_len {op:Nat→Int}:∀ q,(stk op q).length≤q
 | 0=>Nat.zero_le _
 | q+1=>by
  have ih:=stk_len (op:=op) q
  rw [stk]
  unfold stepS
  split
  ·simp;omega
  split
  ·cases (stk op q).getLast? with
   | none=>show (stk op q).length≤_;omega
   | some b=>simp;omega
  split
  ·rw [List.length_dropLast];omega
  ·omega
set_option maxRecDepth 100000 in
set_option maxHeartbeats 1000000 in
theorem rmatch_some (cs:List (Int × Int))(cb co cc n:Nat)(hn:cs.length=n)(bn:n≤1000000)(hpos:0<n)(w:World)(hc:IsAt w.cell? (some ⟨cb,co,none⟩) cs) :
  Calls Tryz.prog 89 #[.slice (some ⟨cb,co,none⟩) n cc] w (MatchEnd cs w):=by
 have hmk:=make_run n bn w
 obtain ⟨w1,hw1⟩:∃ w1,w1=w.alloc (.cells (cellsN (fillS n 0)).toArray 3):=⟨_,rfl⟩
 rw [← hw1] at hmk
 obtain ⟨g,hg⟩:∃ g,g=w.heap.size:=⟨_,rfl⟩
 rw [← hg] at hmk
 have hcb:cb<g:=by rw [hg];exact World.block_lt_of_cell? w _ (cell_op hc 0 (by omega))
 have N1:NumBlk g (fillS n 0) w1:=by rw [hg,hw1];exact heap_alloc_new w _
 have H1:=hid6 N1
 have HC:Hid (∀ W,Only g w1 W→IsAt W.cell? (some ⟨cb,co,none⟩) cs):=hid6 fun W ho=>hc.keep fun a v h=>by
  have hlt:=World.block_lt_of_cell? w a h
  have b1:=ho.belowB (B:=g) (Nat.le_refl _) (blk_lt N1)
  have b2:Below g w w1:=by rw [hg,hw1];exact (Below.refl _ w).alloc (Nat.le_refl _) _
  exact ((b2.trans b1).cell (by rw [hg];exact hlt)).trans h
 have HB:Hid (∀ W,Only g w1 W→Below w.heap.size w W):=hid6 fun W ho=>by
  have b1:=ho.belowB (B:=g) (Nat.le_refl _) (blk_lt N1)
  have b2:Below g w w1:=by rw [hg,hw1];exact (Below.refl _ w).alloc (Nat.le_refl _) _
  rw [← hg]
  exact b2.trans b1
 have HG:Hid (w.heap.size≤g):=hid6 (by omega)
 clear hw1 hg N1 hc
 go_enter Tryz.func89,Tryz.ntmps89
 go_wp2
 go_loopw [5] (fun iv wr=>∃ k:Nat,iv=.int .i64 k∧k≤n∧Hid (NumBlk g (fillS n k) wr)∧Only g w1 wr) (fun iv _=>n - (intOf iv).toNat)
 case atStart=>exact ⟨0,rfl,Nat.zero_le _,H1,Only.refl _ _⟩
 case round =>
  obtain ⟨k,rfl,hk,hN,hO⟩:=hrel
  by_cases hkn:k<n
  ·obtain ⟨f0,f1⟩:=hN.out.at k (by rw [fill_len hk];exact hkn)
   go_wp2
   exact ⟨⟨k+1,by go_num,by omega,hid6 (by rw [← fill_next hkn];exact hN.out.set k (-1)),hO.trans (Only.set _ _ _ _)⟩,by simp [intOf];omega⟩
  have hkn:k=n:=by omega
  subst hkn
  have hN0:Hid (NumBlk g (docS (opA cs) k 0) wr):=hid6 (by have:=hN.out;rw [fill_all] at this;exact this)
  clear hN H1
  have hO1:=hO
  clear hO
  go_wp2
  go_loopw [6] (fun iv wr=>∃ j:Nat,iv=.int .i64 j∧j≤k∧Hid (NumBlk g (docS (opA cs) k j) wr∧∀ i,i<j→Opn (opA cs) i→0≤(closeAt (opA cs) k i).2)∧Only g w1 wr) (fun iv _=>k - (intOf iv).toNat)
  case atStart=>exact ⟨0,rfl,Nat.zero_le _,hid6 ⟨hN0.out,fun i h=>by omega⟩,hO1⟩
  case round =>
   obtain ⟨j,rfl,hj,hJ,hO⟩:=hrel
   clear hN0 hO1
   by_cases hjk:j<k
   ·have c0:=cell_op (HC.out _ hO) j (by omega)
    by_cases ho:Opn (opA cs) j
    ·have hcl:=hid6 (closes_any cs cb co cc k hn (by omega) j hjk _ (HC.out _ hO))
     have hrg:=closeAt_rng (opA cs) k j
     have hrl:(closeAt (opA cs) k j).2=-1∨(closeAt (opA cs) k j).1<(closeAt (opA cs) k j).2:=closeS_lt (k - (j+1)) (j+1) 0 (-1) (by omega)
     have hcase:(opA cs j=48∨opA cs j=51):=ho
     have HNo:Hid ((closeAt (opA cs) k j).2<0→goodS cs=false):=hid6 fun h=>by subst hn;exact no_end hjk ho h
     have HS:Hid (docS (opA cs) k (j+1)=if 0≤(closeAt (opA cs) k j).1 then ((((docS (opA cs) k j).set j (closeAt (opA cs) k j).2).set (closeAt (opA cs) k j).2.toNat j).set j (closeAt (opA cs) k j).1).set (closeAt (opA cs) k j).1.toNat (closeAt (opA cs) k j).2 else ((docS (opA cs) k j).set j (closeAt (opA cs) k j).2).set (closeAt (opA cs) k j).2.toNat j):=hid6 (by rw [docS,docStep,if_pos ho])
     have HE:Hid (0≤(closeAt (opA cs) k j).2→∀ i,i<j+1→Opn (opA cs) i→0≤(closeAt (opA cs) k i).2):=hid6 fun h i hi ho=>by
      by_cases h2:i<j
      ·exact hJ.out.2 i h2 ho
      ·have:i=j:=by omega
       subst this;exact h
     generalize opA cs j=oo at c0 hcase
     generalize closeAt (opA cs) k j=r at hcl hrg hrl HNo HS HE
     obtain ⟨o,e⟩:=r
     simp only at hrg hrl
     have hl:=docS_len (opA cs) k j
     have hN:=hid6 hJ.out.1
     clear hJ
     generalize docS (opA cs) k j=ms at hl hN HS
     obtain ⟨f0,f1⟩:=hN.out.at j (by omega)
     by_cases he:e<0
     ·have HNo2:=hid6 (HNo.out he)
      clear HNo
      rcases hcase with rfl | rfl
      all_goals
       go_wp2_with (first | (go_at_call 125;refine hcl.out.mono ?_;clear hcl;rintro e w9 ⟨rfl,w9e⟩;rw [w9e];clear w9e) | fail)
       go_ret2
       exact ⟨by rw [HNo2.out];rfl,HB.out _ hO⟩
     ·obtain ⟨e',rfl⟩:∃ e':Nat,e=e':=⟨e.toNat,by omega⟩
      obtain ⟨f2,f3⟩:=hN.out.at e' (by omega)
      have HE2:=hid6 (HE.out (by omega))
      have d1:j<e':=by omega
      have d1k:e'<k:=by omega
      clear HE HNo
      by_cases h0:0≤o
      ·obtain ⟨o',rfl⟩:∃ o':Nat,o=o':=⟨o.toNat,by omega⟩
       obtain ⟨f4,f5⟩:=hN.out.at o' (by omega)
       have d2:j<o':=by omega
       have d3:o'<e':=by omega
       have HS2:=hid6 (HS.out.trans (if_pos h0))
       clear HS
       rcases hcase with rfl | rfl
       all_goals
        go_wp2_with (first | (go_at_call 125;refine hcl.out.mono ?_;clear hcl;rintro e w9 ⟨rfl,w9e⟩;rw [w9e];clear w9e) | fail)
        refine ⟨⟨j+1,by go_num,by omega,hid6 ⟨by rw [HS2.out];exact (((hN.out.set j _).set e' _).set j _).set o' _,HE2.out⟩,(((hO.trans (Only.set _ _ _ _)).trans (Only.set _ _ _ _)).trans (Only.set _ _ _ _)).trans (Only.set _ _ _ _)⟩,by simp [intOf];omega⟩
      ·have HS2:=hid6 (HS.out.trans (if_neg h0))
       clear HS
       rcases hcase with rfl | rfl
       all_goals
        go_wp2_with (first | (go_at_call 125;refine hcl.out.mono ?_;clear hcl;rintro e w9 ⟨rfl,w9e⟩;rw [w9e];clear w9e) | fail)
        refine ⟨⟨j+1,by go_num,by omega,hid6 ⟨by rw [HS2.out];exact (hN.out.set j _).set e' _,HE2.out⟩,(hO.trans (Only.set _ _ _ _)).trans (Only.set _ _ _ _)⟩,by simp [intOf];omega⟩
    ·have o1:¬ opA cs j=48:=fun h=>ho (.inl h)
     have o2:¬ opA cs j=51:=fun h=>ho (.inr h)
     have HE2:Hid (NumBlk g (docS (opA cs) k (j+1)) wr∧∀ i,i<j+1→Opn (opA cs) i→0≤(closeAt (opA cs) k i).2):=hid6 ⟨by rw [docS,docStep,if_neg ho];exact hJ.out.1,fun i hi hio=>by
      by_cases h2:i<j
      ·exact hJ.out.2 i h2 hio
      ·have:i=j:=by omega
       subst this;exact absurd hio ho⟩
     clear ho hJ
     have q1:(opA cs j != 48)=true:=by simp [o1]
     have q2:(opA cs j != 51)=true:=by simp [o2]
     clear o1 o2
     generalize opA cs j=oo at c0 q1 q2
     go_wp2
     exact ⟨⟨j+1,by go_num,by omega,HE2,hO⟩,by simp [intOf];omega⟩
   have hjk:j=k:=by omega
   subst hjk
   have hO1:=hO
   clear hO
   have hJ1:=hJ
   clear hJ
   go_wp2
   go_loopw [9] (fun iv wr=>∃ i:Nat,iv=.int .i64 i∧i≤j∧Hid (∀ q,q<i→opA cs q=49∨opA cs q=50→0≤gI (docS (opA cs) j j) q)∧Hid (NumBlk g (docS (opA cs) j j) wr)∧Only g w1 wr) (fun iv _=>j - (intOf iv).toNat)
   case atStart=>exact ⟨0,rfl,Nat.zero_le _,hid6 fun q h=>by omega,hid6 hJ1.out.1,hO1⟩
   case round =>
    obtain ⟨i,rfl,hi,hI,hN,hO⟩:=hrel
    clear hO1
    by_cases hij:i<j
    ·have c0:=cell_op (HC.out _ hO) i (by omega)
     have m0:=hN.out.get (j:=i) (by rw [docS_len];exact hij)
     have HNo:Hid ((opA cs i=49∨opA cs i=50)→gI (docS (opA cs) j j) i<0→goodS cs=false):=hid6 fun h h2=>by subst hn;exact no_claim hij h h2
     have HI:Hid ((opA cs i=49∨opA cs i=50→0≤gI (docS (opA cs) j j) i)→∀ q,q<i+1→opA cs q=49∨opA cs q=50→0≤gI (docS (opA cs) j j) q):=hid6 fun h q hq ho=>by
      by_cases h2:q<i
      ·exact hI.out q h2 ho
      ·have:q=i:=by omega
       subst this;exact h ho
     clear hI
     generalize gI (docS (opA cs) j j) i=y at m0 HNo HI
     generalize opA cs i=oo at c0 HNo HI
     by_cases hy:y<0
     ·by_cases h49:oo=49
      ·subst h49
       have HNo2:=hid6 (HNo.out (.inl rfl) hy)
       clear HNo HI
       go_wp2
       go_ret2
       exact ⟨by rw [HNo2.out];rfl,HB.out _ hO⟩
      by_cases h50:oo=50
      ·subst h50
       have HNo2:=hid6 (HNo.out (.inr rfl) hy)
       clear HNo HI
       go_wp2
       go_ret2
       exact ⟨by rw [HNo2.out];rfl,HB.out _ hO⟩
      have HI2:=hid6 (HI.out (fun h=>by omega))
      clear HNo HI
      go_wp2
      exact ⟨⟨i+1,by go_num,by omega,HI2,hN,hO⟩,by simp [intOf];omega⟩
     ·have HI2:=hid6 (HI.out (fun h=>by omega))
      have hcase:oo=49∨oo=50∨(¬ oo=49∧¬ oo=50):=by omega
      clear HNo HI
      rcases hcase with rfl | rfl | ⟨h49,h50⟩
      all_goals
       go_wp2
       exact ⟨⟨i+1,by go_num,by omega,HI2,hN,hO⟩,by simp [intOf];omega⟩
    have hij:i=j:=by omega
    subst hij
    have NN:Hid (Nest (opA cs) i):=hid6 (by
     obtain ⟨a,b⟩:=nest_of hJ1.out.2 hI.out
     exact ⟨a,b⟩)
    have hN1:=hN
    have hO1:=hO
    clear hI hJ1 hN hO
    go_wp2
    go_loopw [10] (fun iv wr=>∃ q:Nat,iv=.int .i64 q∧q≤i∧Hid (∀ p,p<q→standS (opA cs p) (stk (opA cs) p)=true)∧Hid (NumBlk g (thS (opA cs) i q) wr)∧Only g w1 wr) (fun iv _=>i - (intOf iv).toNat)
    case atStart=>exact ⟨0,rfl,Nat.zero_le _,hid6 fun p h=>by omega,hN1,hO1⟩
    case round =>
     obtain ⟨q,rfl,hq,hI,hN,hO⟩:=hrel
     clear hN1 hO1
     by_cases hqi:q<i
     ·have c0:=cell_op (HC.out _ hO) q (by omega)
      have hop:=opened_any cs (thS (opA cs) i q) cb co cc g i hn (by omega) q (by omega) _ (HC.out _ hO) hN.out (fit_noted NN.out (thS_len _ _ _) (th_fit NN.out q))
      rw [open_stk NN.out (th_fit NN.out q) (by omega)] at hop
      have hop:=hid6 hop
      have hgl:=blk_lt hN.out
      have HST:=hid6 (stk_starts NN.out (by omega:q≤i))
      have hsl:((stk (opA cs) q).map Blk.s).length≤q:=by rw [List.length_map];exact stk_len q
      have HNo:Hid (8<((stk (opA cs) q).map Blk.s).length+(if Opn (opA cs) q then 1 else 0)→goodS cs=false):=hid6 fun h=>by subst hn;exact no_room hqi (by rwa [List.length_map] at h)
      have HNl:Hid (opA cs q=52→lvV (opA cs) i q<0→goodS cs=false):=hid6 fun h h2=>by subst hn;exact no_loop NN.out hqi h h2
      have HOk:Hid (((stk (opA cs) q).map Blk.s).length+(if Opn (opA cs) q then 1 else 0)≤8→(opA cs q=52→0≤lvV (opA cs) i q)→∀ p,p<q+1→standS (opA cs p) (stk (opA cs) p)=true):=hid6 fun h h2 p hp=>by
       by_cases h3:p<q
       ·exact hI.out p h3
       ·have:p=q:=by omega
        subst this
        subst hn
        exact may_stand NN.out hqi (by rwa [List.length_map] at h) h2
      have HA:=hid6 (acc_stk NN.out (by omega:q≤i) q)
      generalize (stk (opA cs) q).map Blk.s=ss at hop HST hsl HNo HOk HA
      obtain ⟨l,hl⟩:∃ l,l=ss.length:=⟨_,rfl⟩
      have HL:=hid6 hl
      unfold OpenEnd at hop
      rw [← hl] at hop hsl HNo HOk
      clear hl hI
      by_cases ho:Opn (opA cs) q
      ·have hne:¬ opA cs q=52:=by unfold Opn at ho;omega
       rw [if_pos ho] at HNo HOk
       have HT:Hid (NumBlk g (thS (opA cs) i (q+1)) wr):=hid6 (by rw [thS,if_neg hne];exact hN.out)
       have HOk:=hid6 fun h=>HOk.out h (fun h=>absurd h hne)
       have hcase:(opA cs q=48∨opA cs q=51):=ho
       clear HNl HA HST ho hne
       generalize opA cs q=oo at c0 hcase
       by_cases h8:(8:Int)<(l:Int)+1
       ·have HNo2:=hid6 (HNo.out (by omega))
        clear HNo HOk HT
        rcases hcase with rfl | rfl
        all_goals
         go_wp2_with (first | (go_at_call 126;refine hop.out.mono ?_;clear hop;rintro e w7 ⟨a7,c7,rfl,hr7,b7⟩;have c0':=(b7.cell (World.block_lt_of_cell? _ _ c0)).trans c0;have hO7:=hO.trans (Only.below b7)) | fail)
         go_ret2
         exact ⟨by rw [HNo2.out];rfl,HB.out _ hO7⟩
       ·have HOk2:=hid6 (HOk.out (by omega))
        clear HNo HOk
        rcases hcase with rfl | rfl
        all_goals
         go_wp2_with (first | (go_at_call 126;refine hop.out.mono ?_;clear hop;rintro e w7 ⟨a7,c7,rfl,hr7,b7⟩;have c0':=(b7.cell (World.block_lt_of_cell? _ _ c0)).trans c0;have hO7:=hO.trans (Only.below b7)) | fail)
         exact ⟨⟨q+1,by go_num,by omega,HOk2,hid6 ((b7.block _ hgl).trans HT.out),hO7⟩,by simp [intOf];omega⟩
      ·have q1:(opA cs q == 48)=false:=by
        have:¬ opA cs q=48:=fun h=>ho (.inl h)
        simpa using this
       have q2:(opA cs q == 51)=false:=by
        have:¬ opA cs q=51:=fun h=>ho (.inr h)
        simpa using this
       rw [if_neg ho,Nat.add_zero] at HNo HOk
       clear ho
       by_cases h8:(8:Int)<(l:Int)
       ·have HNo2:=hid6 (HNo.out (by omega))
        clear HNo HOk HNl HA HST
        generalize opA cs q=oo at c0 q1 q2
        go_wp2_with (first | (go_at_call 126;refine hop.out.mono ?_;clear hop;rintro e w7 ⟨a7,c7,rfl,hr7,b7⟩;have c0':=(b7.cell (World.block_lt_of_cell? _ _ c0)).trans c0;have hO7:=hO.trans (Only.below b7)) | fail)
        go_ret2
        exact ⟨by rw [HNo2.out];rfl,HB.out _ hO7⟩
       ·have HOk2:=hid6 (HOk.out (by omega))
        clear HNo HOk
        by_cases h52:opA cs q=52
        ·have HTs:=hid6 (th_start NN.out hqi h52)
         have HTn:Hid (thS (opA cs) i (q+1)=(thS (opA cs) i q).set q (lvV (opA cs) i q)):=hid6 (by rw [thS,if_pos h52])
         have HOk3:=hid6 fun h=>HOk2.out (fun _=>h)
         have HNl2:=hid6 fun h=>HNl.out h52 h
         have htl:=thS_len (opA cs) i q
         rw [h52] at c0
         clear HOk2 HNl q1 q2
         generalize lvV (opA cs) i q=lv at HTn HOk3 HNl2 HA
         generalize thS (opA cs) i q=ms at hN HTs HTn HA htl
         clear h52
         go_wp2_with (first | (go_at_call 126;refine hop.out.mono ?_;clear hop;rintro e w7 ⟨a7,c7,rfl,hr7,b7⟩;have c0':=(b7.cell (World.block_lt_of_cell? _ _ c0)).trans c0;have hO7:=hO.trans (Only.below b7);have hN7:=hid6 ((b7.block _ hgl).trans hN.out);have hr7:=hid6 hr7;clear hN hO c0) | fail)
         obtain ⟨_,a8,c8,e8,hc8,_⟩:=ns_of_row hr7.out (C:=w7.cell?) (fun _ _ _ h=>h)
         cases e8
         have HNs:Hid (∀ W,Only g w7 W→NsAt W.cell? a7 ss):=hid6 fun W hW=>by
          obtain ⟨_,a9,c9,e9,_,h9⟩:=ns_of_row hr7.out (C:=W.cell?) (fun a x hb h=>by
           have hlt:=World.block_lt_of_cell? w7 a h
           rw [← h]
           exact cell_same (hW.block a.block hlt (fun e=>by simp at e;omega)))
          cases e9
          exact h9
         clear hr7
         go_loopw [13] (fun kv wr=>∃ t:Nat,kv=.int .i64 t∧t≤l∧Hid (NumBlk g (ms.set q (accS (opA cs) ms (ss.take t))) wr)∧Only g w7 wr) (fun kv _=>l - (intOf kv).toNat)
         case atStart=>exact ⟨0,rfl,Nat.zero_le _,hid6 (by rw [show accS (opA cs) ms (ss.take 0)=-1 from rfl,HTs.out];exact hN7.out),Only.refl _ _⟩
         case round =>
          obtain ⟨t,rfl,ht,hNt,hOt⟩:=hrel
          clear hN7 HTs
          by_cases htl2:t<l
          ·obtain ⟨s,s1,s2⟩:=HST.out t (by rw [← HL.out];exact htl2)
           have hna:=HNs.out _ hOt
           obtain ⟨b8,o8,rfl⟩:=ns_some hna (by rw [← HL.out];omega)
           have a0:=ns_at hna t (by rw [← HL.out];exact htl2)
           rw [List.getD_eq_getElem?_getD,List.getElem?_eq_getElem (by rw [← HL.out];exact htl2),Option.getD_some,s1] at a0
           have c1:=cell_op (HC.out _ (hO7.trans hOt)) s (by omega)
           have m1:=hNt.out.get (j:=s) (by simp;omega)
           rw [gI,gset _ _ _ _ (by omega),if_neg (by omega)] at m1
           obtain ⟨g0,g1⟩:=hNt.out.at q (by simp;omega)
           have HAn:Hid (accS (opA cs) ms (ss.take (t+1))=if opA cs s=51 then ms.getD s 0 else accS (opA cs) ms (ss.take t)):=hid6 (by
            rw [acc_next (by rw [← HL.out];exact htl2),s1,Int.toNat_natCast]
            rfl)
           clear hna
           generalize ms.getD s 0=y at m1 HAn
           generalize opA cs s=os at c1 HAn
           by_cases h51:os=51
           ·subst h51
            have HAn2:=hid6 (HAn.out.trans (if_pos rfl))
            clear HAn
            go_wp2
            exact ⟨⟨t+1,by go_num,by omega,hid6 (by have:=hNt.out.set q y;rw [List.set_set] at this;rw [HAn2.out];exact this),hOt.trans (Only.set _ _ _ _)⟩,by simp [intOf];omega⟩
           ·have HAn2:=hid6 (HAn.out.trans (if_neg h51))
            clear HAn
            go_wp2
            exact ⟨⟨t+1,by go_num,by omega,hid6 (by rw [HAn2.out];exact hNt.out),hOt⟩,by simp [intOf];omega⟩
          have htl2:t=l:=by omega
          subst htl2
          have hNt2:Hid (NumBlk g (ms.set q lv) wr):=hid6 (by have:=hNt.out;rw [HL.out,List.take_length,HA.out] at this;exact this)
          have m0:=hNt2.out.get (j:=q) (by simp;omega)
          rw [gI,gset _ _ _ _ (by omega),if_pos rfl] at m0
          clear hNt
          by_cases hlv:lv<0
          ·have HNo2:=hid6 (HNl2.out hlv)
           clear HNl2 HOk3
           go_wp2
           go_ret2
           exact ⟨by rw [HNo2.out];rfl,HB.out _ (hO7.trans hOt)⟩
          ·have HOk4:=hid6 (HOk3.out (by omega))
           clear HNl2 HOk3
           go_wp2
           exact ⟨⟨q+1,by go_num,by omega,HOk4,hid6 (by rw [HTn.out];exact hNt2.out),hO7.trans hOt⟩,by simp [intOf];omega⟩
        ·have HT:Hid (NumBlk g (thS (opA cs) i (q+1)) wr):=hid6 (by rw [thS,if_neg h52];exact hN.out)
         have HOk3:=hid6 (HOk2.out (fun h=>absurd h h52))
         clear HOk2 HNl HA HST
         generalize opA cs q=oo at c0 q1 q2 h52
         go_wp2_with (first | (go_at_call 126;refine hop.out.mono ?_;clear hop;rintro e w7 ⟨a7,c7,rfl,hr7,b7⟩;have c0':=(b7.cell (World.block_lt_of_cell? _ _ c0)).trans c0;have hO7:=hO.trans (Only.below b7)) | fail)
         exact ⟨⟨q+1,by go_num,by omega,HOk3,hid6 ((b7.block _ hgl).trans HT.out),hO7⟩,by simp [intOf];omega⟩
     have hqi:q=i:=by omega
     subst hqi
     have HM:Hid (goodS cs=true∧thS (opA cs) q q=matchS cs):=hid6 (by
      subst hn
      have hg:=(good_iff cs).2 ⟨hI.out,NN.out.nil⟩
      exact ⟨hg,doc_match hg⟩)
     have hN2:=hid6 (HM.out.2 ▸ hN.out)
     clear hI hN
     go_wp2
     go_ret2
     exact ⟨by rw [HM.out.1,if_pos rfl];exact ⟨g,HG.out,by rw [hn];rfl,hN2.out⟩,HB.out _ hO⟩
theorem step_call2 {P:Program}{ops:Array Oper}{o:Oper}{a:Act}{w:World}{K:Act→World→Prop}{Q:Exit→Act→World→Prop}{X:Prop}(hgd:o.guard=none)(f:FuncId)(xs:Array Operand)(ts:Array TypeId)
  (ho:o.op=.call { callee:=.value (.func f),args:=xs,argTypes:=ts }) (eg:∀ args w,(callFunc f args).run P w=.ok (.enter f args) w) (args:Array Value) (hargs0:xs.toList.map a.eval=args.toList) (post:Ending→World→Prop)
  (h:Calls P f args w post) (hp:∀ e w',post e w'→∃ v,e=.returned v∧K (a.put o.dst v) w'):if Region.wanted o (yielded ops a.tmps)=true then Oper.wp P o a w K Q else X:=by
 have hw:Region.wanted o (yielded ops a.tmps)=true:=by simp [Region.wanted,hgd]
 have hargs:xs.map a.eval=args:=by
  apply Array.toList_inj.1
  rw [Array.toList_map]
  exact hargs0
 rw [if_pos hw]
 unfold Oper.wp
 have e1:(execOp a.eval o).run P w=.ok (.enter f args) w:=by
  unfold execOp
  simp [ho,resolve,invoke,go_sem,eg,hargs]
 rw [e1]
 refine h.mono fun e w' hpost=>?_
 obtain ⟨v,rfl,hk⟩:=hp e w' hpost
 exact hk
def dep (cs:List (Int × Int)):Nat→Nat
 | 0=>0
 | k+1=>max (dep cs k) (mst cs k).1.length
theorem good_nil:goodS []=true:=by decide
set_option maxRecDepth 100000 in
set_option maxHeartbeats 1000000 in
theorem rmatch_nil (ca:Option Addr)(cc:Nat)(w:World):Calls Tryz.prog 89 #[.slice ca 0 cc] w (MatchEnd [] w):=by
 have hmk:=make_run 0 (by omega) w
 have b1:=(Below.refl _ w).alloc (Nat.le_refl _) (.cells (cellsN (fillS 0 0)).toArray 3)
 have n1:NumBlk w.heap.size (matchS []) (w.alloc (.cells (cellsN (fillS 0 0)).toArray 3)):=heap_alloc_new w _
 generalize w.alloc (.cells (cellsN (fillS 0 0)).toArray 3)=w1 at hmk b1 n1
 have HE:Hid (MatchEnd [] w (.returned (.tuple #[.slice (some ⟨w.heap.size,0,none⟩) 0 0,.int .i64 0])) w1):=hid6 ⟨by rw [if_pos good_nil];exact ⟨_,Nat.le_refl _,rfl,n1⟩,b1⟩
 clear b1 n1
 go_enter Tryz.func89,Tryz.ntmps89
 have hmk':Sem.run Tryz.prog (Instr.makeSlice 28 (.int .i64 0) (.int .i64 0)) w=.ok (.slice (some ⟨w.heap.size,0,none⟩) 0 0) w1:=hmk
 go_wp2
 go_loopw [5] (fun iv wr=>iv=.int .i64 0∧wr=w1) (fun _ _=>0)
 case atStart=>exact ⟨rfl,rfl⟩
 case round =>
  obtain ⟨rfl,rfl⟩:=hrel
  go_wp2
  go_loopw [6] (fun iv w5=>iv=.int .i64 0∧w5=wr) (fun _ _=>0)
  case atStart=>exact ⟨rfl,rfl⟩
  case round =>
   obtain ⟨rfl,rfl⟩:=hrel
   go_wp2
   go_loopw [9] (fun iv w5=>iv=.int .i64 0∧w5=wr) (fun _ _=>0)
   case atStart=>exact ⟨rfl,rfl⟩
   case round =>
    obtain ⟨rfl,rfl⟩:=hrel
    go_wp2
    go_loopw [10] (fun iv w5=>iv=.int .i64 0∧w5=wr) (fun _ _=>0)
    case atStart=>exact ⟨rfl,rfl⟩
    case round =>
     obtain ⟨rfl,rfl⟩:=hrel
     go_wp2
     go_ret2
     exact HE.out
theorem rmatch_any (cs:List (Int × Int))(ca:Option Addr)(cc n:Nat)(hn:cs.length=n)(bn:n≤1000000)(w:World)(hc:IsAt w.cell? ca cs):Calls Tryz.prog 89 #[.slice ca n cc] w (MatchEnd cs w):=by
 by_cases h0:n=0
 ·subst h0
  have:cs=[]:=List.eq_nil_of_length_eq_zero hn
  subst this
  exact rmatch_nil ca cc w
 ·obtain ⟨b,off,rfl⟩:=is_some hc (by omega)
  exact rmatch_some cs b off cc n hn bn (by omega) w hc
end Go.Proofs.YtpmlnkjamhelnaaGreat
