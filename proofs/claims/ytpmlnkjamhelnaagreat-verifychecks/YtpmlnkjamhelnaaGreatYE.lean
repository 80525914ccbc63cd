/- Layer 9: the closure of gasOf. Layer 9: slices.ContainsFunc, of functions that may draw and lay; rightNumbers. Layer 9: rightNumbers, gasOf, Part. -/
import Derived.Test.YtpmlnkjamhelnaaGreatSA
import Derived.Test.YtpmlnkjamhelnaaGreatPlain
import Derived.Shelf.Abstract
import Derived.Test.YtpmlnkjamhelnaaGreatCB
namespace Go.Proofs.YtpmlnkjamhelnaaGreat
open Go.RowKit
structure GBox where
 (pc pl pp cc lc:Nat)
 (ca la:Option Addr)
def GBox.fr (b:GBox):Array Value:=#[.pointer (some ⟨b.pc,0,none⟩),.pointer (some ⟨b.pl,0,none⟩),.pointer (some ⟨b.pp,0,none⟩)]
structure GSt (b:GBox)(cs:List (Int × Int))(cal:List Int)(w:World):Prop where
 c1:w.cell? ⟨b.pc,0,none⟩=some (.slice b.ca cs.length b.cc)
 c2:w.cell? ⟨b.pl,0,none⟩=some (.slice b.la cal.length b.lc)
 c3:w.cell? ⟨b.pp,0,none⟩=some (.func (.func 181) #[] b.fr)
 i:IsAt w.cell? b.ca cs
 n:NsAt w.cell? b.la cal
theorem GSt.keep {b:GBox}{cs:List (Int × Int)}{cal:List Int}{w w':World}(h:GSt b cs cal w)(hb:Below w.heap.size w w'):GSt b cs cal w' :=
 ⟨below_keep hb _ _ h.c1,below_keep hb _ _ h.c2,below_keep hb _ _ h.c3,h.i.keep (below_keep hb),h.n.keep (below_keep hb)⟩
def rightN (cs:List (Int × Int))(cal:List Int):Prop:=(∀ x ∈ cs,(x.1=53→0≤x.2∧x.2<cal.length)∧(x.1=51→0≤x.2))∧∀ n ∈ cal,0≤n
def PEnd (cs:List (Int × Int))(cal:List Int)(a:Nat)(L:List (Bool × Bool))(w:World)(e:Ending)(w':World):Prop :=
 ∃ m g g0,e=.returned (.tuple #[.int .i64 (g:Nat),.int .i64 (m:Nat)])∧PI cal cs a m g0 L∧g≤TM∧(m=cs.length→g=g0)∧(∀ h:m<cs.length,(cs[m].1=49∨cs[m].1=50)∧g=cut (g0+costN cs[m].1))∧Below w.heap.size w w'
def IfA (cal:List Int)(cs:List (Int × Int))(k:Nat)(L:List (Bool × Bool))(m y:Nat)(x:Int):Prop :=
 ∃ y0,∃ h:m<cs.length,PI cal cs (k+1) m y0 ((false,false) :: L)∧cs[m].1=x∧(x=49∨x=50)∧y=cut (y0+costN x)
set_option maxRecDepth 100000 in
set_option maxHeartbeats 4000000 in
theorem parts_step (b:GBox)(cs:List (Int × Int))(cal:List Int)(hg:goodS cs=true)(hr:rightN cs cal)(hn:cs.length≤9000000000000)(a:Nat)(ha:a≤cs.length)(L:List (Bool × Bool))(hL:arun (cs.take a) []=some L)(w:World)(h:GSt b cs cal w)
  (ih:∀ (a':Nat) (L':List (Bool × Bool)) (w':World),a<a'→a'≤cs.length→arun (cs.take a') []=some L'→GSt b cs cal w'→Calls Tryz.prog 181 (#[.int .i64 (a':Nat)]++b.fr) w' (PEnd cs cal a' L' w')) :
  Calls Tryz.prog 181 (#[.int .i64 (a:Nat)]++b.fr) w (PEnd cs cal a L w):=by
 have HG:=hid9 hg
 have HR:=hid9 hr
 have HIH:=hid9 ih
 have HS0:=hid9 h
 have HP0:=hid9 (pi_start (cal:=cal) ha hL)
 obtain ⟨n,hn'⟩:∃ n,n=cs.length:=⟨_,rfl⟩
 have HN:=hid9 hn'
 obtain ⟨pc,hpc⟩:∃ x,x=b.pc:=⟨_,rfl⟩
 obtain ⟨pl,hpl⟩:∃ x,x=b.pl:=⟨_,rfl⟩
 obtain ⟨pp,hpp⟩:∃ x,x=b.pp:=⟨_,rfl⟩
 have HB:=hid9 (And.intro hpc (And.intro hpl hpp))
 unfold GBox.fr
 show Calls Tryz.prog 181 #[.int .i64 (a:Nat),.pointer (some ⟨b.pc,0,none⟩),.pointer (some ⟨b.pl,0,none⟩),.pointer (some ⟨b.pp,0,none⟩)] w _
 rw [← hpc,← hpl,← hpp]
 rw [← hn'] at hn ha
 have eF:∀ args w,(callFunc 181 args).run Tryz.prog w=.ok (.enter 181 args) w:=enters_of Tryz.func181 (by kernel_rfl) rfl
 clear hpc hpl hpp hn' h hg hr ih hL
 go_enter Tryz.func181,Tryz.ntmps181
 go_wp2_with fail
 go_loopw [0,5] (fun av gv wr=>∃ k g:Nat,av=.int .i64 k∧gv=.int .i64 g∧k≤n∧g≤1048577∧Hid (PI cal cs a k g L)∧Hid (Below w.heap.size w wr)) (fun av _ _=>n - (intOf av).toNat)
 case atStart=>exact ⟨a,0,rfl,rfl,ha,by omega,HP0,hid9 (Below.refl _ w)⟩
 case round =>
  obtain ⟨k,g,rfl,rfl,hk,hgl,HP,HW⟩:=hrel
  have HS:Hid (GSt b cs cal wr):=hid9 (HS0.out.keep HW.out)
  obtain ⟨e1,e2,e3⟩:=HB.out
  have d1:=HS.out.c1
  have d2:=HS.out.c2
  have d3:=HS.out.c3
  rw [← e1,← HN.out] at d1
  rw [← e2] at d2
  rw [GBox.fr,← e1,← e2,← e3] at d3
  clear e1 e2 e3
  by_cases hlt:k<n
  ·have hkl:k<cs.length:=by rw [← HN.out];exact hlt
   obtain ⟨cb,co,ec,z1,z2⟩:∃ cb co,b.ca=some ⟨cb,co,none⟩∧wr.cell? ⟨cb,co+k*2,none⟩=some (.int .i64 cs[k].1)∧wr.cell? ⟨cb,co+k*2+1,none⟩=some (.int .i64 cs[k].2):=by
    rcases HS.out.i with h | ⟨x,o,e,h⟩
    ·rw [h] at hkl;cases hkl
    ·exact ⟨x,o,e,h k hkl⟩
   rw [ec] at d1
   have hc1:=(costT_pos cs[k].1).2
   obtain ⟨c0,hc0⟩:∃ c0,c0=costN cs[k].1:=⟨_,rfl⟩
   have HC:Hid (∀ w,Calls Tryz.prog 183 #[.int .i64 cs[k].1] w fun e w'=>e=.returned (.int .i64 (c0:Nat))∧w'=w):=hid9 fun w=>by rw [hc0];exact cost9_any _ w
   rw [← hc0] at hc1
   obtain ⟨v,hv⟩:∃ v,v=cut (g+c0):=⟨_,rfl⟩
   have hvl:v≤1048577:=by rw [hv];exact cut_le _
   have HSm:Hid (Calls Tryz.prog 182 #[.slice (some ⟨wr.heap.size+1,0,none⟩) 2 2] ((wr.alloc (.cells #[.int .i64 cs[k].1,.int .i64 cs[k].2] 74)).alloc (.cells #[.int .i64 (g:Int),.int .i64 (c0:Int)] 3)) fun e w2=>e=.returned (.int .i64 (v:Nat))∧w2.cell? ⟨wr.heap.size,0,none⟩=some (.int .i64 cs[k].1)∧w2.cell? ⟨wr.heap.size,1,none⟩=some (.int .i64 cs[k].2)∧w2.cell? ⟨pc,0,none⟩=some (.slice (some ⟨cb,co,none⟩) n b.cc)∧w2.cell? ⟨pl,0,none⟩=some (.slice b.la cal.length b.lc)∧w2.cell? ⟨pp,0,none⟩=some (.func (.func 181) #[] #[.pointer (some ⟨pc,0,none⟩),.pointer (some ⟨pl,0,none⟩),.pointer (some ⟨pp,0,none⟩)])∧Hid (Below wr.heap.size wr w2)∧Hid (Below w.heap.size w w2)):=hid9 (by
    rw [hv]
    refine (sum9_at g c0 (wr.alloc (.cells #[.int .i64 cs[k].1,.int .i64 cs[k].2] 74)) (wr.heap.size+1) (by simp)).mono fun e w2 ⟨h1,h2⟩=>?_
    have b1:=(Below.refl _ wr).alloc (Nat.le_refl _) (.cells #[.int .i64 cs[k].1,.int .i64 cs[k].2] 74)
    have b2:=(Below.refl _ (wr.alloc (.cells #[.int .i64 cs[k].1,.int .i64 cs[k].2] 74))).alloc (Nat.le_refl _) (.cells #[.int .i64 (g:Int),.int .i64 (c0:Int)] 3)
    have b3:=b1.trans (b2.mono b1.size)
    rw [← h2] at b2 b3
    refine ⟨h1,below_keep b2 _ _ (Lib.cell_of_heap (heap_alloc_new wr _) 0),below_keep b2 _ _ (Lib.cell_of_heap (heap_alloc_new wr _) 1),below_keep b3 _ _ d1,below_keep b3 _ _ d2,below_keep b3 _ _ d3,hid9 b3,hid9 (HW.out.trans (b3.mono HW.out.size))⟩)
   have HE:Hid ((cs[k].1=49∨cs[k].1=50)→∀ w',Below w.heap.size w w'→PEnd cs cal a L w (.returned (.tuple #[.int .i64 (v:Nat),.int .i64 (k:Nat)])) w'):=hid9 fun hx w' hb=>⟨k,v,g,rfl,HP.out,hvl,fun h=>by omega,fun _=>⟨hx,by rw [hv,hc0]⟩,hb⟩
   have HV:=hid9 hv
   have HC0:=hid9 hc0
   have HK:Hid (∀ (m:Nat) (L':List (Bool × Bool)) (W:World),k≤m→m<cs.length→arun (cs.take (m+1)) []=some L'→L'≠[]→Below wr.heap.size wr W→Calls Tryz.prog 181 (#[.int .i64 ((m:Int)+1)]++#[.pointer (some ⟨pc,0,none⟩),.pointer (some ⟨pl,0,none⟩),.pointer (some ⟨pp,0,none⟩)]) W fun e w4=>∃ m2 y y0:Nat,e=.returned (.tuple #[.int .i64 (y:Nat),.int .i64 (m2:Nat)])∧y≤1048577∧PI cal cs (m+1) m2 y0 L'∧(∃ h:m2<cs.length,(cs[m2].1=49∨cs[m2].1=50)∧y=cut (y0+costN cs[m2].1))∧Below W.heap.size W w4):=hid9 fun m L' W h1 h2 h3 h4 h5=>by
    have h0:=HP.out.le
    have:=HIH.out (m+1) L' W (by omega) h2 h3 (HS.out.keep h5)
    obtain ⟨e1,e2,e3⟩:=HB.out
    rw [GBox.fr,← e1,← e2,← e3] at this
    refine Calls.mono this fun e w4 ⟨m2,y,y0,q1,q2,q3,q4,q5,q6⟩=>⟨m2,y,y0,q1,q3,q2,?_,q6⟩
    rcases Nat.lt_or_ge m2 cs.length with q | q
    ·exact ⟨q,q5 q⟩
    ·exfalso
     have q7:m2=cs.length:=Nat.le_antisymm q2.kn q
     have q8:=q2.ar
     rw [q7] at q8
     exact h4 (good_end HG.out q8)
   clear hv hc0 HW
   rcases (show cs[k].1=49∨cs[k].1=50∨cs[k].1=53∨cs[k].1=48∨cs[k].1=51∨(cs[k].1≠49∧cs[k].1≠50∧cs[k].1≠53∧cs[k].1≠48∧cs[k].1≠51) by omega) with hx | hx | hx | hx | hx | ⟨x1,x2,x3,x4,x5⟩
   ·replace HE:=hid9 (HE.out (.inl hx))
    rw [hx] at z1 HC HSm
    generalize cs[k].2=x9 at *
    clear HP HG HR HIH HK HS0 HP0 HV HC0 hx HS
    go_wp2_with (first | (go_at_call 183;refine (HC.out _).mono ?_;clear HC;rintro e w' ⟨rfl,rfl⟩) | (go_at_call 182;refine HSm.out.mono ?_;clear HSm d1 d2 d3;rintro e w2 ⟨rfl,t0,t1,d1,d2,d3,HW2,HW3⟩) | fail)
    go_ret2
    exact HE.out _ HW3.out
   ·replace HE:=hid9 (HE.out (.inr hx))
    rw [hx] at z1 HC HSm
    generalize cs[k].2=x9 at *
    clear HP HG HR HIH HK HS0 HP0 HV HC0 hx HS
    go_wp2_with (first | (go_at_call 183;refine (HC.out _).mono ?_;clear HC;rintro e w' ⟨rfl,rfl⟩) | (go_at_call 182;refine HSm.out.mono ?_;clear HSm d1 d2 d3;rintro e w2 ⟨rfl,t0,t1,d1,d2,d3,HW2,HW3⟩) | fail)
    go_ret2
    exact HE.out _ HW3.out
   ·have hmem:=List.getElem_mem hkl
    obtain ⟨q1,q2⟩:=(HR.out.1 _ hmem).1 hx
    obtain ⟨i,hi⟩:∃ i:Nat,cs[k].2=(i:Int):=⟨_,(Int.toNat_of_nonneg q1).symm⟩
    have hil:i<cal.length:=by omega
    obtain ⟨lb,lo,el,y1⟩:∃ lb lo,b.la=some ⟨lb,lo,none⟩∧wr.cell? ⟨lb,lo+i,none⟩=some (.int .i64 cal[i]):=by
     rcases HS.out.n with h | ⟨x,o,e,h⟩
     ·rw [h] at hil;cases hil
     ·exact ⟨x,o,e,h i hil⟩
    obtain ⟨y,hy⟩:∃ y:Nat,cal[i]=(y:Int):=⟨_,(Int.toNat_of_nonneg (HR.out.2 _ (List.getElem_mem hil))).symm⟩
    have HP2:=hid9 (pi_call (v:=y) HG.out HP.out hkl hx (by rw [hi,Int.toNat_natCast,List.getD_eq_getElem?_getD,List.getElem?_eq_getElem hil,Option.getD_some,hy,Int.toNat_natCast]))
    rw [hx] at z1 HC HC0 HSm
    rw [← HC0.out,← HV.out] at HP2
    rw [hi] at z2 HSm
    rw [hy] at y1
    rw [el] at d2 HSm
    obtain ⟨cl,hcl'⟩:∃ cl,cl=cal.length:=⟨_,rfl⟩
    rw [← hcl'] at hil d2 HSm
    clear HP HG HR HIH HK HS0 HP0 HV HC0 HE hx HS hmem q1 q2 hi hy el hcl'
    go_wp2_with (first | (go_at_call 183;refine (HC.out _).mono ?_;clear HC;rintro e w' ⟨rfl,rfl⟩) | (go_at_call 182;refine HSm.out.mono ?_;clear HSm d1 d2 d3;rintro e w2 ⟨rfl,t0,t1,d1,d2,d3,HW2,HW3⟩;replace y1:=below_keep HW2.out _ _ y1) | (go_at_call 182;refine (sum9_at _ _ _ _ (by simp)).mono ?_;rintro e w' ⟨rfl,rfl⟩) | fail)
    exact ⟨⟨k+1,cut (v+y),by go_num,rfl,by omega,cut_le _,HP2,hid9 (HW3.out.alloc HW3.out.size _)⟩,by simp [intOf];omega⟩
   ·have HK1:Hid (∀ W,Below wr.heap.size wr W→Below w.heap.size w W→Calls Tryz.prog 181 (#[.int .i64 ((k:Int)+1)]++#[.pointer (some ⟨pc,0,none⟩),.pointer (some ⟨pl,0,none⟩),.pointer (some ⟨pp,0,none⟩)]) W fun e w4=>∃ (m y:Nat) (x:Int),e=.returned (.tuple #[.int .i64 (y:Nat),.int .i64 (m:Nat)])∧k<m∧m<n∧y≤1048577∧w4.cell? ⟨cb,co+m*2,none⟩=some (.int .i64 x)∧w4.cell? ⟨pc,0,none⟩=some (.slice (some ⟨cb,co,none⟩) n b.cc)∧w4.cell? ⟨pp,0,none⟩=some (.func (.func 181) #[] #[.pointer (some ⟨pc,0,none⟩),.pointer (some ⟨pl,0,none⟩),.pointer (some ⟨pp,0,none⟩)])∧Hid (IfA cal cs k L m y x)∧Hid (Below wr.heap.size wr w4)∧Hid (Below w.heap.size w w4)):=hid9 fun W b1 b2=>by
     have ho:=pi_open HG.out HP.out.ar hkl (.inl hx)
     rw [hx] at ho
     refine (HK.out k _ W (Nat.le_refl _) hkl ho (by simp) b1).mono fun e w4 ⟨m,y,y0,r1,r2,r3,⟨r4,r5,r6⟩,r7⟩=>?_
     have b3:=b1.trans (r7.mono b1.size)
     have G4:=HS.out.keep b3
     have c4:w4.cell? ⟨cb,co+m*2,none⟩=some (.int .i64 cs[m].1):=by
      rcases G4.i with h | ⟨x,o,e,h⟩
      ·rw [h] at r4;cases r4
      ·rw [ec] at e;cases e;exact (h m r4).1
     exact ⟨m,y,cs[m].1,r1,r3.le,by rw [HN.out];exact r4,r2,c4,below_keep b3 _ _ d1,below_keep b3 _ _ d3,hid9 ⟨y0,r4,r3,rfl,r5,r6⟩,hid9 b3,hid9 (b2.trans (r7.mono b2.size))⟩
    have HK2:Hid (∀ (m y:Nat) (x:Int) (W:World),k<m→IfA cal cs k L m y x→x=49→Below wr.heap.size wr W→Below w.heap.size w W→Calls Tryz.prog 181 (#[.int .i64 ((m:Int)+1)]++#[.pointer (some ⟨pc,0,none⟩),.pointer (some ⟨pl,0,none⟩),.pointer (some ⟨pp,0,none⟩)]) W fun e w5=>∃ m2 z:Nat,e=.returned (.tuple #[.int .i64 (z:Nat),.int .i64 (m2:Nat)])∧m<m2∧m2<n∧z≤1048577∧Hid (PI cal cs a (m2+1) (cut (v+max y z)) L)∧Hid (Below w.heap.size w w5)):=hid9 fun m y x W hkm ⟨y0,r4,r3,s1,s2,s3⟩ h49 b1 b2=>by
     rw [h49] at s1
     have hel:=(pi_else HG.out r3.ar r4 s1).2
     refine (HK.out m _ W (by omega) r4 hel (by simp) b1).mono fun e w5 ⟨m2,z,z0,u1,u2,u3,⟨u4,u5,u6⟩,u7⟩=>⟨m2,z,u1,u3.le,by rw [HN.out];exact u4,u2,hid9 ?_,hid9 (b2.trans (u7.mono b2.size))⟩
     rcases u5 with u5 | u5
     ·have:=(pi_else HG.out u3.ar u4 u5).1
      simp at this
     ·have:=pi_ifelse HG.out HP.out hkl hx r3 r4 s1 u3 u4 u5
      rw [u6,u5,s3,h49,HV.out,HC0.out,hx]
      exact this
    have HK3:Hid (∀ (m y:Nat) (x:Int),IfA cal cs k L m y x→x≠49→PI cal cs a (m+1) (cut (v+y)) L):=hid9 fun m y x ⟨y0,r4,r3,s1,s2,s3⟩ h49=>by
     have s4:x=50:=s2.resolve_left h49
     rw [s4] at s1
     have:=pi_if HG.out HP.out hkl hx r3 r4 s1
     rw [s3,s4,HV.out,HC0.out,hx]
     exact this
    rw [hx] at z1 HC HSm
    generalize cs[k].2=x9 at *
    clear HP HG HR HIH HK HS0 HP0 HV HC0 HE hx HS
    go_wp2_with (first | (go_at_call 183;refine (HC.out _).mono ?_;clear HC;rintro e w' ⟨rfl,rfl⟩) | (go_at_call 182;refine HSm.out.mono ?_;clear HSm d1 d2 d3;rintro e w2 ⟨rfl,t0,t1,d1,d2,d3,HW2,HW3⟩) | (go_at_fn 181;first | (refine (HK1.out _ HW2.out HW3.out).mono ?_;clear HK1 t0 t1 d1 d2 d3 HW2 HW3;rintro e w4 ⟨m,y,x,rfl,hkm,hm,hy,z4,d1,d3,HI,HW4,HW5⟩) | (refine (HK2.out _ _ _ _ hkm HI.out (by simp_all;done) HW4.out HW5.out).mono ?_;clear HK2 HW5;rintro e w6 ⟨m2,z,rfl,hm2,hm2n,hz,HP6,HW5⟩)) | (go_at_call 182;refine (sum9_at _ _ _ _ (by simp)).mono ?_;rintro e w' ⟨rfl,rfl⟩) | fail)
    ·have e1:max y z=z:=Nat.max_eq_right (by omega)
     rw [e1] at HP6
     exact ⟨⟨m2+1,cut (v+z),by go_num,rfl,by omega,cut_le _,HP6,hid9 (HW5.out.alloc HW5.out.size _)⟩,by simp [intOf];omega⟩
    ·have e1:max y z=y:=Nat.max_eq_left (by omega)
     rw [e1] at HP6
     exact ⟨⟨m2+1,cut (v+y),by go_num,rfl,by omega,cut_le _,HP6,hid9 (HW5.out.alloc HW5.out.size _)⟩,by simp [intOf];omega⟩
    ·have h49:x≠49:=by simp_all
     exact ⟨⟨m+1,cut (v+y),by go_num,rfl,by omega,cut_le _,hid9 (HK3.out _ _ _ HI.out h49),hid9 (HW5.out.alloc HW5.out.size _)⟩,by simp [intOf];omega⟩
   ·have hmem:=List.getElem_mem hkl
    have q1:=(HR.out.1 _ hmem).2 hx
    obtain ⟨i,hi⟩:∃ i:Nat,cs[k].2=(i:Int):=⟨_,(Int.toNat_of_nonneg q1).symm⟩
    have HKL:Hid (∀ W,Below wr.heap.size wr W→Below w.heap.size w W→W.cell? ⟨wr.heap.size,1,none⟩=some (.int .i64 (i:Int))→Calls Tryz.prog 181 (#[.int .i64 ((k:Int)+1)]++#[.pointer (some ⟨pc,0,none⟩),.pointer (some ⟨pl,0,none⟩),.pointer (some ⟨pp,0,none⟩)]) W fun e w4=>∃ m y:Nat,e=.returned (.tuple #[.int .i64 (y:Nat),.int .i64 (m:Nat)])∧k<m∧m<n∧y≤1048577∧w4.cell? ⟨wr.heap.size,1,none⟩=some (.int .i64 (i:Int))∧Hid (PI cal cs a (m+1) (cut (v+cut (min i TM*y))) L)∧Hid (Below w.heap.size w w4)):=hid9 fun W b1 b2 hc=>by
     have ho:=pi_open HG.out HP.out.ar hkl (.inr hx)
     rw [hx] at ho
     refine (HK.out k _ W (Nat.le_refl _) hkl ho (by simp) b1).mono fun e w4 ⟨m,y,y0,r1,r2,r3,⟨r4,r5,r6⟩,r7⟩=>⟨m,y,r1,r3.le,by rw [HN.out];exact r4,r2,below_keep r7 _ _ hc,hid9 ?_,hid9 (b2.trans (r7.mono b2.size))⟩
     rcases r5 with r5 | r5
     ·have:=(pi_else HG.out r3.ar r4 r5).1
      simp at this
     ·have:=pi_loop HG.out HP.out hkl hx r3 r4 r5
      rw [hi,Int.toNat_natCast] at this
      rw [r6,r5,HV.out,HC0.out,hx]
      exact this
    have HT:Hid (∀ (y:Nat) (W:World),y≤1048577→Calls Tryz.prog 184 #[.int .i64 (i:Int),.int .i64 (y:Int)] W fun e w5=>∃ t:Nat,e=.returned (.int .i64 (t:Nat))∧t≤1048577∧Hid (t=cut (min i TM*y))∧Hid (Below W.heap.size W w5)):=hid9 fun y W hy=>(times9_any i y hy W).mono fun e w5 ⟨h1,h2⟩=>⟨_,h1,cut_le _,hid9 rfl,hid9 h2⟩
    rw [hx] at z1 HC HSm
    rw [hi] at z2 HSm
    clear HP HG HR HIH HK HS0 HP0 HV HC0 HE hx HS hmem q1 hi
    go_wp2_with (first | (go_at_call 183;refine (HC.out _).mono ?_;clear HC;rintro e w' ⟨rfl,rfl⟩) | (go_at_call 182;refine HSm.out.mono ?_;clear HSm d1 d2 d3;rintro e w2 ⟨rfl,t0,t1,d1,d2,d3,HW2,HW3⟩) | (go_at_fn 181;refine (HKL.out _ HW2.out HW3.out t1).mono ?_;clear HKL t0 t1 d1 d2 d3 HW2 HW3;rintro e w4 ⟨m,y,rfl,hkm,hm,hy,t1,HP4,HW4⟩) | (go_at_call 184;refine (HT.out _ _ hy).mono ?_;clear HT;rintro e w5 ⟨t,rfl,ht,HT5,HW5⟩) | (go_at_call 182;refine (sum9_at _ _ _ _ (by simp)).mono ?_;rintro e w' ⟨rfl,rfl⟩) | fail)
    have b5:=HW4.out.trans (HW5.out.mono HW4.out.size)
    exact ⟨⟨m+1,cut (v+t),by go_num,rfl,by omega,cut_le _,by rw [HT5.out];exact HP4,hid9 (b5.alloc b5.size _)⟩,by simp [intOf];omega⟩
   ·have HP2:=hid9 (pi_plain HG.out HP.out hkl x4 x1 x2 x5 x3)
    rw [← HC0.out,← HV.out] at HP2
    have f1:(cs[k].1 == 49)=false:=by simpa using x1
    have f2:(cs[k].1 == 50)=false:=by simpa using x2
    have f3:(cs[k].1 == 53)=false:=by simpa using x3
    have f4:(cs[k].1 == 48)=false:=by simpa using x4
    have f5:(cs[k].1 == 51)=false:=by simpa using x5
    clear HP HG HR HIH HK HS0 HP0 HV HC0 HE x1 x2 x3 x4 x5 HS
    generalize cs[k].1=x0 at *
    generalize cs[k].2=x9 at *
    go_wp2_with (first | (go_at_call 183;refine (HC.out _).mono ?_;clear HC;rintro e w' ⟨rfl,rfl⟩) | (go_at_call 182;refine HSm.out.mono ?_;clear HSm d1 d2 d3;rintro e w2 ⟨rfl,t0,t1,d1,d2,d3,HW2,HW3⟩) | fail)
    exact ⟨⟨k+1,v,by go_num,rfl,by omega,hvl,HP2,HW3⟩,by simp [intOf];omega⟩
  ·obtain rfl:k=n:=by omega
   have HE:Hid (PEnd cs cal a L w (.returned (.tuple #[.int .i64 (g:Nat),.int .i64 (k:Nat)])) wr):=hid9 ⟨k,g,g,rfl,HP.out,HP.out.gl,fun _=>rfl,fun h=>by rw [← HN.out] at h;omega,HW.out⟩
   clear HP HG HR HIH HS0 HP0 HS
   go_wp2_with fail
   go_ret2
   exact HE.out
theorem parts_any (b:GBox)(cs:List (Int × Int))(cal:List Int)(hg:goodS cs=true)(hr:rightN cs cal)(hn:cs.length≤9000000000000):∀ (u a:Nat) (L:List (Bool × Bool)) (w:World),cs.length - a≤u→a≤cs.length→arun (cs.take a) []=some L→GSt b cs cal w →
  Calls Tryz.prog 181 (#[.int .i64 (a:Nat)]++b.fr) w (PEnd cs cal a L w):=by
 intro u
 induction u with
 | zero =>
  intro a L w hu ha hL h
  exact parts_step b cs cal hg hr hn a ha L hL w h fun a' L' w' h1 h2 _ _=>by omega
 | succ u ih =>
  intro a L w hu ha hL h
  exact parts_step b cs cal hg hr hn a ha L hL w h fun a' L' w' h1 h2 h3 h4=>ih a' L' w' (by omega) h2 h3 h4
def idx9 {α:Type}(p:α→Bool)(zs:List α):Int:=match zs.findIdx? p with | some i=>(i:Int) | none=>-1
theorem idx9_none {α:Type}{p:α→Bool}{zs:List α}(h:∀ j (hj:j<zs.length),p zs[j]=false):idx9 p zs=-1:=by
 have:zs.findIdx? p=none:=by
  rw [List.findIdx?_eq_none_iff]
  intro x hx
  obtain ⟨j,hj,rfl⟩:=List.mem_iff_getElem.1 hx
  exact h j hj
 rw [idx9,this]
theorem idx9_some {α:Type}{p:α→Bool}{zs:List α}{k:Nat}(hk:k<zs.length)(h:∀ j (hj:j<zs.length),j<k→p zs[j]=false)(hp:p zs[k]=true):idx9 p zs=k:=by
 have:zs.findIdx? p=some k:=by
  rw [List.findIdx?_eq_some_iff_getElem]
  exact ⟨hk,hp,fun j hj=>by rw [h j (by omega) hj];simp⟩
 rw [idx9,this]
theorem idx9_nonneg {α:Type}(p:α→Bool)(zs:List α):decide (0≤idx9 p zs)=zs.any p:=by
 unfold idx9
 cases e:zs.findIdx? p with
 | none =>
  rw [List.findIdx?_eq_none_iff] at e
  have:zs.any p=false:=by rw [List.any_eq_false];intro x hx;rw [e x hx];simp
  rw [this];rfl
 | some i =>
  rw [List.findIdx?_eq_some_iff_getElem] at e
  obtain ⟨h,h1,_⟩:=e
  have:zs.any p=true:=List.any_eq_true.2 ⟨_,List.getElem_mem h,h1⟩
  rw [this];simp
def Tells9 {α:Type}(enc:α→Value)(F:Nat)(fr:Array Value)(W:World)(zs:List α)(p:α→Bool):Prop:=∀ x ∈ zs,∀ W',Below W.heap.size W W'→Calls Tryz.prog F (#[enc x]++fr) W' fun e w'=>e=.returned (.bool (p x))∧Below W'.heap.size W' w'
def encI (x:Int × Int):Value:=.agg #[.int .i64 x.1,.int .i64 x.2]
set_option maxRecDepth 100000 in
set_option maxHeartbeats 1000000 in
theorem index9I_any (zs:List (Int × Int))(a:Option Addr)(n c:Nat)(hn:zs.length=n)(bn:n≤9000000000000)(W:World)(F:Nat)(fr:Array Value)(eF:∀ args w,(callFunc F args).run Tryz.prog w=.ok (.enter F args) w)(p:Int × Int→Bool)(hz:IsAt W.cell? a zs)(hF:Tells9 encI F fr W zs p) :
  Calls Tryz.prog 206 #[.slice a n c,.func (.func F) #[] fr] W fun e w'=>e=.returned (.int .i64 (idx9 p zs))∧Below W.heap.size W w':=by
 have HN:=hid9 hn
 have HZ:=hid9 hz
 have HF:=hid9 hF
 clear hn hz hF
 go_enter Tryz.func206,Tryz.ntmps206
 go_wp2_with fail
 go_loopw [8] (fun iv wr=>∃ k:Nat,iv=.int .i64 k∧k≤n∧Hid (Below W.heap.size W wr)∧Hid (∀ j (hj:j<zs.length),j<k→p zs[j]=false)) (fun iv _=>n - (intOf iv).toNat)
 case atStart=>exact ⟨0,rfl,Nat.zero_le _,hid9 (Below.refl _ _),hid9 fun j _ h=>by omega⟩
 case round =>
  obtain ⟨k,rfl,hk,HW,HP⟩:=hrel
  by_cases hlt:k<n
  ·have hkl:k<zs.length:=by rw [HN.out];exact hlt
   obtain ⟨zb,zo,e1,z1,z2⟩:∃ zb zo,a=some ⟨zb,zo,none⟩∧wr.cell? ⟨zb,zo+k*2,none⟩=some (.int .i64 zs[k].1)∧wr.cell? ⟨zb,zo+k*2+1,none⟩=some (.int .i64 zs[k].2):=by
    rcases HZ.out with h | ⟨b,o,e,h⟩
    ·rw [h] at hkl;cases hkl
    ·exact ⟨b,o,e,below_keep HW.out _ _ (h k hkl).1,below_keep HW.out _ _ (h k hkl).2⟩
   subst e1
   have HC:Hid (Calls Tryz.prog F (#[.agg #[.int .i64 zs[k].1,.int .i64 zs[k].2]]++fr) wr fun e w'=>e=.returned (.bool (p zs[k]))∧Hid (Below W.heap.size W w')):=hid9 ((HF.out zs[k] (List.getElem_mem hkl) wr HW.out).mono fun e w' ⟨h1,h2⟩=>⟨h1,hid9 (HW.out.trans (h2.mono HW.out.size))⟩)
   cases hp:p zs[k] with
   | true =>
    have HE:=hid9 (idx9_some hkl HP.out hp)
    rw [hp] at HC
    generalize zs[k].1=x0 at *
    generalize zs[k].2=x9 at *
    clear HP HF HZ hp HW
    go_wp2_with (first | (go_at_fn F;refine HC.out.mono ?_;clear HC;rintro e w4 ⟨rfl,HW⟩) | fail)
    go_ret
    exact ⟨by rw [HE.out];rfl,HW.out⟩
   | false =>
    have HP2:Hid (∀ j (hj:j<zs.length),j<k+1→p zs[j]=false):=hid9 fun j hj hjk=>by
     by_cases e:j=k
     ·subst e;exact hp
     ·exact HP.out j hj (by omega)
    rw [hp] at HC
    generalize zs[k].1=x0 at *
    generalize zs[k].2=x9 at *
    clear HP HF HZ hp HW
    go_wp2_with (first | (go_at_fn F;refine HC.out.mono ?_;clear HC;rintro e w4 ⟨rfl,HW⟩) | fail)
    exact ⟨⟨k+1,by go_num,by omega,HW,HP2⟩,by simp [intOf];omega⟩
  ·obtain rfl:k=n:=by omega
   have HE:Hid (idx9 p zs=-1):=hid9 (idx9_none fun j hj=>HP.out j hj (by rw [← HN.out];exact hj))
   clear HP HF HZ
   go_wp2_with fail
   go_ret
   exact ⟨by rw [HE.out];rfl,HW.out⟩
set_option maxRecDepth 100000 in
set_option maxHeartbeats 1000000 in
theorem contains9I_any (zs:List (Int × Int))(a:Option Addr)(n c:Nat)(hn:zs.length=n)(bn:n≤9000000000000)(W:World)(F:Nat)(fr:Array Value)(eF:∀ args w,(callFunc F args).run Tryz.prog w=.ok (.enter F args) w)(p:Int × Int→Bool)(hz:IsAt W.cell? a zs)(hF:Tells9 encI F fr W zs p) :
  Calls Tryz.prog 180 #[.slice a n c,.func (.func F) #[] fr] W fun e w'=>e=.returned (.bool (zs.any p))∧Below W.heap.size W w':=by
 have HI:=hid9 (index9I_any zs a n c hn bn W F fr eF p hz hF)
 have e6:∀ args w,(callFunc 206 args).run Tryz.prog w=.ok (.enter 206 args) w:=enters_of Tryz.func206 (by kernel_rfl) rfl
 rw [← idx9_nonneg]
 generalize idx9 p zs=i at HI ⊢
 clear hn hz hF
 go_enter Tryz.func180,Tryz.ntmps180
 go_wp2_with (first | (go_at_fn 206;refine HI.out.mono ?_;clear HI;rintro e w' ⟨rfl,HW⟩) | fail)
 go_ret
 exact ⟨rfl,HW⟩
def encN (x:Int):Value:=.int .i64 x
set_option maxRecDepth 100000 in
set_option maxHeartbeats 1000000 in
theorem index9N_any (zs:List Int)(a:Option Addr)(n c:Nat)(hn:zs.length=n)(bn:n≤18000000000000)(W:World)(F:Nat)(fr:Array Value)(eF:∀ args w,(callFunc F args).run Tryz.prog w=.ok (.enter F args) w)(p:Int→Bool)(hz:NsAt W.cell? a zs)(hF:Tells9 encN F fr W zs p) :
  Calls Tryz.prog 119 #[.slice a n c,.func (.func F) #[] fr] W fun e w'=>e=.returned (.int .i64 (idx9 p zs))∧Below W.heap.size W w':=by
 have HN:=hid9 hn
 have HZ:=hid9 hz
 have HF:=hid9 hF
 clear hn hz hF
 go_enter Tryz.func119,Tryz.ntmps119
 go_wp2_with fail
 go_loopw [8] (fun iv wr=>∃ k:Nat,iv=.int .i64 k∧k≤n∧Hid (Below W.heap.size W wr)∧Hid (∀ j (hj:j<zs.length),j<k→p zs[j]=false)) (fun iv _=>n - (intOf iv).toNat)
 case atStart=>exact ⟨0,rfl,Nat.zero_le _,hid9 (Below.refl _ _),hid9 fun j _ h=>by omega⟩
 case round =>
  obtain ⟨k,rfl,hk,HW,HP⟩:=hrel
  by_cases hlt:k<n
  ·have hkl:k<zs.length:=by rw [HN.out];exact hlt
   obtain ⟨zb,zo,e1,z1⟩:∃ zb zo,a=some ⟨zb,zo,none⟩∧wr.cell? ⟨zb,zo+k,none⟩=some (.int .i64 zs[k]):=by
    rcases HZ.out with h | ⟨b,o,e,h⟩
    ·rw [h] at hkl;cases hkl
    ·exact ⟨b,o,e,below_keep HW.out _ _ (h k hkl)⟩
   subst e1
   have HC:Hid (Calls Tryz.prog F (#[.int .i64 zs[k]]++fr) wr fun e w'=>e=.returned (.bool (p zs[k]))∧Hid (Below W.heap.size W w')):=hid9 ((HF.out zs[k] (List.getElem_mem hkl) wr HW.out).mono fun e w' ⟨h1,h2⟩=>⟨h1,hid9 (HW.out.trans (h2.mono HW.out.size))⟩)
   cases hp:p zs[k] with
   | true =>
    have HE:=hid9 (idx9_some hkl HP.out hp)
    rw [hp] at HC
    generalize zs[k]=z at *
    clear HP HF HZ hp HW
    go_wp2_with (first | (go_at_fn F;refine HC.out.mono ?_;clear HC;rintro e w4 ⟨rfl,HW⟩) | fail)
    go_ret
    exact ⟨by rw [HE.out];rfl,HW.out⟩
   | false =>
    have HP2:Hid (∀ j (hj:j<zs.length),j<k+1→p zs[j]=false):=hid9 fun j hj hjk=>by
     by_cases e:j=k
     ·subst e;exact hp
     ·exact HP.out j hj (by omega)
    rw [hp] at HC
    generalize zs[k]=z at *
    clear HP HF HZ hp HW
    go_wp2_with (first | (go_at_fn F;refine HC.out.mono ?_;clear HC;rintro e w4 ⟨rfl,HW⟩) | fail)
    exact ⟨⟨k+1,by go_num,by omega,HW,HP2⟩,by simp [intOf];omega⟩
  ·obtain rfl:k=n:=by omega
   have HE:Hid (idx9 p zs=-1):=hid9 (idx9_none fun j hj=>HP.out j hj (by rw [← HN.out];exact hj))
   clear HP HF HZ
   go_wp2_with fail
   go_ret
   exact ⟨by rw [HE.out];rfl,HW.out⟩
set_option maxRecDepth 100000 in
set_option maxHeartbeats 1000000 in
theorem contains9N_any (zs:List Int)(a:Option Addr)(n c:Nat)(hn:zs.length=n)(bn:n≤18000000000000)(W:World)(F:Nat)(fr:Array Value)(eF:∀ args w,(callFunc F args).run Tryz.prog w=.ok (.enter F args) w)(p:Int→Bool)(hz:NsAt W.cell? a zs)(hF:Tells9 encN F fr W zs p) :
  Calls Tryz.prog 118 #[.slice a n c,.func (.func F) #[] fr] W fun e w'=>e=.returned (.bool (zs.any p))∧Below W.heap.size W w':=by
 have HI:=hid9 (index9N_any zs a n c hn bn W F fr eF p hz hF)
 have e6:∀ args w,(callFunc 119 args).run Tryz.prog w=.ok (.enter 119 args) w:=enters_of Tryz.func119 (by kernel_rfl) rfl
 rw [← idx9_nonneg]
 generalize idx9 p zs=i at HI ⊢
 clear hn hz hF
 go_enter Tryz.func118,Tryz.ntmps118
 go_wp2_with (first | (go_at_fn 119;refine HI.out.mono ?_;clear HI;rintro e w' ⟨rfl,HW⟩) | fail)
 go_ret
 exact ⟨rfl,HW⟩
def wrong9 (l:Nat)(x:Int × Int):Bool:=if x.1=53 then decide (x.2<0∨(l:Int)≤x.2) else if x.1=51 then decide (x.2<0) else false
def below9 (x:Int):Bool:=decide (x<0)
def rightB (cs:List (Int × Int))(cal:List Int):Bool:=!cs.any (wrong9 cal.length) && !cal.any below9
theorem right_of {cs:List (Int × Int)}{cal:List Int}(h:rightB cs cal=true):rightN cs cal:=by
 unfold rightB at h
 rw [Bool.and_eq_true,Bool.not_eq_true',Bool.not_eq_true',List.any_eq_false,List.any_eq_false] at h
 refine ⟨fun x hx=>⟨fun e=>?_,fun e=>?_⟩,fun n hn=>?_⟩
 ·have:=h.1 x hx
  simp only [wrong9,e,if_true,decide_eq_true_eq] at this
  omega
 ·have:=h.1 x hx
  simp only [wrong9,e] at this
  simp at this
  omega
 ·have:=h.2 n hn
  simp only [below9,decide_eq_true_eq] at this
  omega
set_option maxRecDepth 100000 in
set_option maxHeartbeats 1000000 in
theorem wrong9_any (pl l c:Nat)(la:Option Addr)(x:Int × Int)(w:World)(h:w.cell? ⟨pl,0,none⟩=some (.slice la l c)) :
  Calls Tryz.prog 178 #[.agg #[.int .i64 x.1,.int .i64 x.2],.pointer (some ⟨pl,0,none⟩)] w fun e w'=>e=.returned (.bool (wrong9 l x))∧Below w.heap.size w w':=by
 obtain ⟨x0,x9⟩:=x
 have b1:=(Below.refl _ w).alloc (Nat.le_refl _) (.cells #[.int .i64 x0,.int .i64 x9] 74)
 have h2:=below_keep b1 _ _ h
 obtain ⟨r,hr⟩:∃ r,r=wrong9 l (x0,x9):=⟨_,rfl⟩
 rw [← hr]
 have HR:=hid9 hr
 clear hr
 go_enter Tryz.func178,Tryz.ntmps178
 go_wp2_with fail
 all_goals
  go_ret
  refine ⟨?_,b1⟩
  rw [HR.out]
  unfold wrong9
  simp_all
set_option maxRecDepth 100000 in
theorem below9_any (x:Int)(w:World):Calls Tryz.prog 179 #[.int .i64 x] w fun e w'=>e=.returned (.bool (below9 x))∧w'=w:=by
 unfold below9
 go_enter Tryz.func179,Tryz.ntmps179
 go_wp2_with fail
 go_ret
 exact ⟨rfl,rfl⟩
set_option maxRecDepth 100000 in
set_option maxHeartbeats 1000000 in
theorem right9_any (cs:List (Int × Int))(cal:List Int)(ca la:Option Addr)(cc lc:Nat)(hn:cs.length≤9000000000000)(hl:cal.length≤18000000000000)(w:World)(hi:IsAt w.cell? ca cs)(hz:NsAt w.cell? la cal) :
  Calls Tryz.prog 156 #[.slice ca cs.length cc,.slice la cal.length lc] w fun e w'=>e=.returned (.bool (rightB cs cal))∧Below w.heap.size w w':=by
 obtain ⟨W,hW⟩:∃ W,W=w.alloc (.cells #[.slice la cal.length lc] 28):=⟨_,rfl⟩
 have b1:=(Below.refl _ w).alloc (Nat.le_refl _) (.cells #[.slice la cal.length lc] 28)
 have c1:W.cell? ⟨w.heap.size,0,none⟩=some (.slice la cal.length lc):=by rw [hW];exact Lib.cell_of_heap (heap_alloc_new w _) 0
 rw [← hW] at b1
 have e1:∀ args w,(callFunc 178 args).run Tryz.prog w=.ok (.enter 178 args) w:=enters_of Tryz.func178 (by kernel_rfl) rfl
 have e2:∀ args w,(callFunc 179 args).run Tryz.prog w=.ok (.enter 179 args) w:=enters_of Tryz.func179 (by kernel_rfl) rfl
 have T1:Tells9 encI 178 #[.pointer (some ⟨w.heap.size,0,none⟩)] W cs (wrong9 cal.length):=fun x hx W' hb=>by
  show Calls Tryz.prog 178 #[.agg #[.int .i64 x.1,.int .i64 x.2],.pointer (some ⟨w.heap.size,0,none⟩)] W' _
  exact wrong9_any w.heap.size cal.length lc la x W' (below_keep hb _ _ c1)
 have T2:∀ W',Tells9 encN 179 #[] W' cal below9:=fun W' x hx W2 hb2=>by
  show Calls Tryz.prog 179 #[.int .i64 x] W2 _
  exact (below9_any x W2).mono fun e w' ⟨h1,h2⟩=>⟨h1,by rw [h2];exact Below.refl _ _⟩
 have HC1:Hid (Calls Tryz.prog 180 #[.slice ca cs.length cc,.func (.func 178) #[] #[.pointer (some ⟨w.heap.size,0,none⟩)]] W fun e w'=>e=.returned (.bool (cs.any (wrong9 cal.length)))∧w'.cell? ⟨w.heap.size,0,none⟩=some (.slice la cal.length lc)∧Hid (NsAt w'.cell? la cal)∧Hid (Below w.heap.size w w')):=hid9 ((contains9I_any cs ca cs.length cc rfl hn W 178 #[.pointer (some ⟨w.heap.size,0,none⟩)] e1 (wrong9 cal.length) (hi.keep (below_keep b1)) T1).mono fun e w' ⟨h1,h2⟩=>⟨h1,below_keep h2 _ _ c1,hid9 (hz.keep (below_keep (b1.trans (h2.mono b1.size)))),hid9 (b1.trans (h2.mono b1.size))⟩)
 have HC2:Hid (∀ W',NsAt W'.cell? la cal→Below w.heap.size w W'→Calls Tryz.prog 118 #[.slice la cal.length lc,.func (.func 179) #[] #[]] W' fun e w'=>e=.returned (.bool (cal.any below9))∧Hid (Below w.heap.size w w')):=hid9 fun W' hz' hb=>(contains9N_any cal la cal.length lc rfl hl W' 179 #[] e2 below9 hz' (T2 W')).mono fun e w' ⟨h1,h2⟩=>⟨h1,hid9 (hb.trans (h2.mono hb.size))⟩
 unfold rightB
 generalize cs.any (wrong9 cal.length)=r1 at *
 generalize cal.any below9=r2 at *
 rw [hW] at HC1
 clear hi hz b1 e1 e2 hW T1 T2
 go_enter Tryz.func156,Tryz.ntmps156
 go_wp2_with (first | (go_at_call 180;refine HC1.out.mono ?_;clear HC1;rintro e w4 ⟨rfl,c4,HZ4,HB4⟩) | (go_at_call 118;refine (HC2.out _ HZ4.out HB4.out).mono ?_;clear HC2 HB4;rintro e w5 ⟨rfl,HB4⟩) | fail)
 all_goals
  go_ret
  exact ⟨by simp_all,HB4.out⟩
set_option maxRecDepth 100000 in
set_option maxHeartbeats 1000000 in
theorem gasOf_any (cs:List (Int × Int))(cal:List Int)(ca la:Option Addr)(cc lc:Nat)(hg:goodS cs=true)(hr:rightN cs cal)(hn:cs.length≤9000000000000)(w:World)(hi:IsAt w.cell? ca cs)(hz:NsAt w.cell? la cal) :
  Calls Tryz.prog 157 #[.slice ca cs.length cc,.slice la cal.length lc] w fun e w'=>e=.returned (.int .i64 (gasS cal cs:Nat))∧Below w.heap.size w w':=by
 have hsf:∀ (W:World) (a:Addr) (q:Go.Fn) (x y:Array Value),(store a (.func q x y)).run Tryz.prog W=stored Tryz.prog W a (.func q x y) _:=fun W a q x y=>run_store Tryz.prog W a _ _ rfl
 have eF:∀ args w,(callFunc 181 args).run Tryz.prog w=.ok (.enter 181 args) w:=enters_of Tryz.func181 (by kernel_rfl) rfl
 have HC:Hid (Calls Tryz.prog 181 #[.int .i64 0,.pointer (some ⟨w.heap.size,0,none⟩),.pointer (some ⟨w.heap.size+1,0,none⟩),.pointer (some ⟨w.heap.size+1+1,0,none⟩)] (((w.alloc (.cells #[.slice ca cs.length cc] 47)).alloc (.cells #[.slice la cal.length lc] 28)).alloc (.cells #[.func (.func 181) #[] #[.pointer (some ⟨w.heap.size,0,none⟩),.pointer (some ⟨w.heap.size+1,0,none⟩),.pointer (some ⟨w.heap.size+1+1,0,none⟩)]] 219)) fun e w'=>∃ m:Nat,e=.returned (.tuple #[.int .i64 (gasS cal cs:Nat),.int .i64 (m:Nat)])∧Hid (Below w.heap.size w w')):=hid9 (by
  obtain ⟨w1,e1⟩:∃ w1,w1=w.alloc (.cells #[.slice ca cs.length cc] 47):=⟨_,rfl⟩
  obtain ⟨w2,e2⟩:∃ w2,w2=w1.alloc (.cells #[.slice la cal.length lc] 28):=⟨_,rfl⟩
  obtain ⟨fv,ef⟩:∃ fv:Value,fv=.func (.func 181) #[] #[.pointer (some ⟨w.heap.size,0,none⟩),.pointer (some ⟨w.heap.size+1,0,none⟩),.pointer (some ⟨w.heap.size+1+1,0,none⟩)]:=⟨_,rfl⟩
  obtain ⟨W,e3⟩:∃ W,W=w2.alloc (.cells #[fv] 219):=⟨_,rfl⟩
  rw [← e1,← e2,← ef,← e3]
  have z1:w1.heap.size=w.heap.size+1:=by rw [e1];simp
  have z2:w2.heap.size=w.heap.size+1+1:=by rw [e2];simp [z1]
  have b1:Below w.heap.size w w1:=by rw [e1];exact (Below.refl _ w).alloc (Nat.le_refl _) _
  have b2:Below w1.heap.size w1 w2:=by rw [e2];exact (Below.refl _ w1).alloc (Nat.le_refl _) _
  have b3:Below w2.heap.size w2 W:=by rw [e3];exact (Below.refl _ w2).alloc (Nat.le_refl _) _
  have c1:w1.cell? ⟨w.heap.size,0,none⟩=some (.slice ca cs.length cc):=by rw [e1];exact Lib.cell_of_heap (heap_alloc_new w _) 0
  have c2:w2.cell? ⟨w.heap.size+1,0,none⟩=some (.slice la cal.length lc):=by rw [e2,← z1];exact Lib.cell_of_heap (heap_alloc_new w1 _) 0
  have c3:W.cell? ⟨w.heap.size+1+1,0,none⟩=some fv:=by rw [e3,← z2];exact Lib.cell_of_heap (heap_alloc_new w2 _) 0
  have k2:Below w1.heap.size w1 W:=b2.trans (b3.mono b2.size)
  have k1:Below w.heap.size w W:=b1.trans (k2.mono b1.size)
  have hst:GSt ⟨w.heap.size,w.heap.size+1,w.heap.size+1+1,cc,lc,ca,la⟩ cs cal W:=⟨below_keep k2 _ _ c1,below_keep b3 _ _ c2,by rw [ef] at c3;exact c3,hi.keep (below_keep k1),hz.keep (below_keep k1)⟩
  refine Calls.mono (parts_any ⟨w.heap.size,w.heap.size+1,w.heap.size+1+1,cc,lc,ca,la⟩ cs cal hg hr hn cs.length 0 [] W (by omega) (by omega) rfl hst) fun e w' ⟨m,g,g0,q1,q2,q3,q4,q5,q6⟩=>⟨m,?_,hid9 (k1.trans (q6.mono k1.size))⟩
  have hm:m=cs.length:=by
   rcases Nat.lt_or_ge m cs.length with q | q
   ·exfalso
    have:=(good_stand hg q q2.ar).1
    rcases (q5 q).1 with h | h
    ·rw [h] at this;simp [astand] at this
    ·rw [h] at this;simp [astand] at this
   ·exact Nat.le_antisymm q2.kn q
  have hgg:=q4 hm
  rw [hm] at q2
  rw [pi_gas q2,← hgg]
  exact q1)
 generalize gasS cal cs=gv at *
 clear hi hz hg hr
 go_enter Tryz.func157,Tryz.ntmps157
 go_wp2_with (first | (go_at_fn 181;refine HC.out.mono ?_;clear HC;rintro e w' ⟨m,rfl,HW⟩) | fail)
 go_ret
 exact ⟨rfl,HW.out⟩
def partS (cs:List (Int × Int))(cal:List Int):Nat × Int:=if goodS cs=true then (if rightB cs cal=true then (gasS cal cs,0) else (0,1)) else (0,31)
set_option maxRecDepth 100000 in
set_option maxHeartbeats 1000000 in
theorem part9_any (cs:List (Int × Int))(cal:List Int)(ca la:Option Addr)(cc lc:Nat)(hn:cs.length≤9000000000000)(hl:cal.length≤18000000000000)(w:World)(hi:IsAt w.cell? ca cs)(hz:NsAt w.cell? la cal) :
  Calls Tryz.prog 121 #[.slice ca cs.length cc,.slice la cal.length lc] w fun e w'=>e=.returned (.tuple #[.int .i64 ((partS cs cal).1:Nat),.int .i64 (partS cs cal).2])∧Below w.heap.size w w':=by
 have HM:Hid (Calls Tryz.prog 111 #[.slice ca cs.length cc] w (MatchEnd cs w)):=hid9 (by
  rcases hi with h | ⟨cb,co,e,h⟩
  ·exact match_any cs ca cc 0 0 (.inl h) hn w fun j hj=>by rw [h] at hj;cases hj
  ·exact match_any cs ca cc cb co (.inr e) hn w h)
 have HR:Hid (∀ W,Below w.heap.size w W→Calls Tryz.prog 156 #[.slice ca cs.length cc,.slice la cal.length lc] W fun e w'=>e=.returned (.bool (rightB cs cal))∧Hid (Below w.heap.size w w')):=hid9 fun W hb=>(right9_any cs cal ca la cc lc hn hl W (hi.keep (below_keep hb)) (hz.keep (below_keep hb))).mono fun e w' ⟨h1,h2⟩=>⟨h1,hid9 (hb.trans (h2.mono hb.size))⟩
 by_cases hg:goodS cs=true
 ·replace HM:Hid (Calls Tryz.prog 111 #[.slice ca cs.length cc] w fun e w'=>∃ g:Nat,e=.returned (.tuple #[.slice (some ⟨g,0,none⟩) cs.length cs.length,.int .i64 0])∧Hid (Below w.heap.size w w')):=hid9 (HM.out.mono fun e w' ⟨h1,h2⟩=>by
   rw [if_pos hg] at h1
   obtain ⟨g,_,h1,_⟩:=h1
   exact ⟨g,h1,hid9 h2⟩)
  by_cases hr:rightB cs cal=true
  ·rw [show partS cs cal=(gasS cal cs,0) from by unfold partS;rw [if_pos hg,if_pos hr]]
   rw [hr] at HR
   have HG:Hid (∀ W,Below w.heap.size w W→Calls Tryz.prog 157 #[.slice ca cs.length cc,.slice la cal.length lc] W fun e w'=>e=.returned (.int .i64 (gasS cal cs:Nat))∧Hid (Below w.heap.size w w')):=hid9 fun W hb=>(gasOf_any cs cal ca la cc lc hg (right_of hr) hn W (hi.keep (below_keep hb)) (hz.keep (below_keep hb))).mono fun e w' ⟨h1,h2⟩=>⟨h1,hid9 (hb.trans (h2.mono hb.size))⟩
   generalize gasS cal cs=gv at *
   clear hi hz hg hr
   go_enter Tryz.func121,Tryz.ntmps121
   go_wp2_with (first | (go_at_call 111;refine HM.out.mono ?_;clear HM;rintro e w1 ⟨g,rfl,HW⟩) | (go_at_call 156;refine (HR.out _ HW.out).mono ?_;clear HR HW;rintro e w2 ⟨rfl,HW⟩) | (go_at_call 157;refine (HG.out _ HW.out).mono ?_;clear HG HW;rintro e w3 ⟨rfl,HW⟩) | fail)
   go_ret2
   exact ⟨rfl,HW.out⟩
  ·rw [show partS cs cal=(0,1) from by unfold partS;rw [if_pos hg,if_neg hr]]
   rw [Bool.not_eq_true] at hr
   rw [hr] at HR
   clear hi hz hg hr
   go_enter Tryz.func121,Tryz.ntmps121
   go_wp2_with (first | (go_at_call 111;refine HM.out.mono ?_;clear HM;rintro e w1 ⟨g,rfl,HW⟩) | (go_at_call 156;refine (HR.out _ HW.out).mono ?_;clear HR HW;rintro e w2 ⟨rfl,HW⟩) | fail)
   go_ret2
   exact ⟨rfl,HW.out⟩
 ·rw [show partS cs cal=(0,31) from by unfold partS;rw [if_neg hg]]
  replace HM:Hid (Calls Tryz.prog 111 #[.slice ca cs.length cc] w fun e w'=>e=.returned (.tuple #[.slice none 0 0,.int .i64 31])∧Hid (Below w.heap.size w w')):=hid9 (HM.out.mono fun e w' ⟨h1,h2⟩=>by
   rw [if_neg hg] at h1
   exact ⟨h1,hid9 h2⟩)
  clear hi hz hg HR
  go_enter Tryz.func121,Tryz.ntmps121
  go_wp2_with (first | (go_at_call 111;refine HM.out.mono ?_;clear HM;rintro e w1 ⟨rfl,HW⟩) | fail)
  go_ret2
  exact ⟨rfl,HW.out⟩
theorem ns_at {w:World}{b off:Nat}{ms:List Int}(h:NsAt w.cell? (some ⟨b,off,none⟩) ms)(j:Nat)(hj:j<ms.length):w.cell? ⟨b,off+j,none⟩=some (.int .i64 (ms.getD j 0)):=by
 rcases h with rfl | ⟨b',off',e,hc⟩
 ·simp at hj
 ·cases e
  rw [hc j hj,List.getD_eq_getElem?_getD,List.getElem?_eq_getElem hj]
  rfl
theorem is_at {w:World}{b off:Nat}{cs:List (Int × Int)}(h:IsAt w.cell? (some ⟨b,off,none⟩) cs)(j:Nat)(hj:j<cs.length):w.cell? ⟨b,off+j*2,none⟩=some (.int .i64 ((opsI cs).getD j 0)):=by
 rcases h with rfl | ⟨b',off',e,hc⟩
 ·simp at hj
 ·cases e
  rw [(hc j hj).1,ops_at hj]
theorem ns_some {w:World}{a:Option Addr}{ms:List Int}(h:NsAt w.cell? a ms)(h0:0<ms.length):∃ b off,a=some ⟨b,off,none⟩:=by
 rcases h with rfl | ⟨b,off,e,_⟩
 ·simp at h0
 ·exact ⟨b,off,e⟩
theorem is_some {w:World}{a:Option Addr}{cs:List (Int × Int)}(h:IsAt w.cell? a cs)(h0:0<cs.length):∃ b off,a=some ⟨b,off,none⟩:=by
 rcases h with rfl | ⟨b,off,e,_⟩
 ·simp at h0
 ·exact ⟨b,off,e⟩
theorem cells_new9 (W:World)(xs:List Value)(t:TypeId)(B:Nat)(hB:W.heap.size=B):∀ j u,xs[j]?=some u→(W.alloc (.cells xs.toArray t)).cell? ((⟨B,0,none⟩:Addr).add j)=some u:=by
 subst hB
 intro j u hu
 rw [Addr.add_lit,Lib.cell_of_heap (heap_alloc_new W (.cells xs.toArray t))]
 simpa using hu
end Go.Proofs.YtpmlnkjamhelnaaGreat
