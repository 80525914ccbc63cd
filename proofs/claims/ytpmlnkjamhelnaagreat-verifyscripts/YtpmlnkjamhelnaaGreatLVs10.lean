/- The law VerifyScripts. -/
import Derived.Test.YtpmlnkjamhelnaaGreatZN
import Derived.Test.YtpmlnkjamhelnaaGreatZG
import Derived.Test.YtpmlnkjamhelnaaGreatZS
import Derived.Test.YtpmlnkjamhelnaaGreatVO
import Derived.Test.YtpmlnkjamhelnaaGreatVC
namespace Go.Proofs.YtpmlnkjamhelnaaGreat
open Go.RowKit
structure VS (s:Scr)(L:List Val)(a0:Option Addr)(c0:Nat)(a1:Option Addr)(c1:Nat)(la:Option Addr)(x0:Option Addr)(d0:Nat)(x1:Option Addr)(d1 xb:Nat)(ya:Option Addr)(w W:World):Prop where
 bel:Below w.heap.size w W
 scs:ScIs W.cell? s (.slice a0 s.consts.length c0) (.slice a1 s.funcs.length c1)
 scx:ScIs W.cell? s (.slice x0 s.consts.length d0) (.slice x1 s.funcs.length d1)
 sbx:W.heap[w.heap.size]?=some (.cells #[.slice a0 s.consts.length c0,.slice a1 s.funcs.length c1] 27 (0,0))
 xbx:W.heap[xb]?=some (.cells #[.slice x0 s.consts.length d0,.slice x1 s.funcs.length d1] 27 (0,0))
 vl:Vs W la L
 vy:Vs W ya L
theorem VS.keep {s:Scr}{L:List Val}{a0:Option Addr}{c0:Nat}{a1:Option Addr}{c1:Nat}{la:Option Addr}{x0:Option Addr}{d0:Nat}{x1:Option Addr}{d1 xb:Nat}{ya:Option Addr}{w W W':World}(h:VS s L a0 c0 a1 c1 la x0 d0 x1 d1 xb ya w W)(hb:Below W.heap.size W W'):VS s L a0 c0 a1 c1 la x0 d0 x1 d1 xb ya w W' :=
 ⟨h.bel.trans (hb.mono h.bel.size),h.scs.keep (below_keep hb),h.scx.keep (below_keep hb),(hb.block _ (heap_lt h.sbx)).trans h.sbx,(hb.block _ (heap_lt h.xbx)).trans h.xbx,h.vl.keep hb,h.vy.keep hb⟩
def SB4 (W:World)(sb xb:Nat)(v0 v1 u0 u1:Value):Prop:=W.cell? ⟨sb,0,none⟩=some v0∧W.cell? ⟨sb,1,none⟩=some v1∧W.cell? ⟨xb,0,none⟩=some u0∧W.cell? ⟨xb,1,none⟩=some u1
theorem VS.sb {s:Scr}{L:List Val}{a0:Option Addr}{c0:Nat}{a1:Option Addr}{c1:Nat}{la:Option Addr}{x0:Option Addr}{d0:Nat}{x1:Option Addr}{d1 xb:Nat}{ya:Option Addr}{w W:World}(h:VS s L a0 c0 a1 c1 la x0 d0 x1 d1 xb ya w W):SB4 W w.heap.size xb (.slice a0 s.consts.length c0) (.slice a1 s.funcs.length c1) (.slice x0 s.consts.length d0) (.slice x1 s.funcs.length d1):=⟨Lib.cell_of_heap h.sbx 0,Lib.cell_of_heap h.sbx 1,Lib.cell_of_heap h.xbx 0,Lib.cell_of_heap h.xbx 1⟩
theorem VS.low {s:Scr}{L:List Val}{a0:Option Addr}{c0:Nat}{a1:Option Addr}{c1:Nat}{la:Option Addr}{x0:Option Addr}{d0:Nat}{x1:Option Addr}{d1 xb:Nat}{ya:Option Addr}{w W:World}(h:VS s L a0 c0 a1 c1 la x0 d0 x1 d1 xb ya w W){W':World}(hb:Below W.heap.size W W'):SB4 W' w.heap.size xb (.slice a0 s.consts.length c0) (.slice a1 s.funcs.length c1) (.slice x0 s.consts.length d0) (.slice x1 s.funcs.length d1):=(h.keep hb).sb
def Lp10 (W2:World)(n rb:Nat)(R:Array Value)(p1:Option Addr)(W:World):Prop:=Below W2.heap.size W2 W∧W.heap[rb]?=some (.cells R 30 (0,0))∧(n=0∨∃ F cs,p1=some ⟨F,0,none⟩∧W2.heap.size≤F∧F≠rb∧W.heap[F]?=some (.cells cs 49 (0,0))∧n*4≤cs.size)
theorem lp10_set {W2 W:World}{n rb F i:Nat}{R:Array Value}{v:Value}(h:Lp10 W2 n rb R (some ⟨F,0,none⟩) W)(hn:n≠0):Lp10 W2 n rb R (some ⟨F,0,none⟩) (W.setCell ⟨F,i,none⟩ v):=by
 obtain ⟨h1,h2,h3 | ⟨F',cs,e,h4,h5,h6,h7⟩⟩:=h
 ·exact absurd h3 hn
 ·cases e
  refine ⟨h1.setCell (p:=⟨F,i,none⟩) h4 v,?_,.inr ⟨F,cs.setIfInBounds i v,rfl,h4,h5,heap_setCell_same _ _ _ _ _ _ h6,by simpa using h7⟩⟩
  rw [Below.heap_setCell _ _ _ _ (fun e=>h5 e.symm)]
  exact h2
theorem lp10_cell {W2 W:World}{n rb F i:Nat}{R:Array Value}(h:Lp10 W2 n rb R (some ⟨F,0,none⟩) W)(hi:i<n*4):(∃ u,W.cell? ⟨F,i,none⟩=some u)∧W.frozen? ⟨F,i,none⟩=false:=by
 obtain ⟨h1,h2,h3 | ⟨F',cs,e,h4,h5,h6,h7⟩⟩:=h
 ·omega
 ·cases e
  refine ⟨⟨cs[i]'(by omega),?_⟩,Lib.frozen_of_heap h6 i⟩
  rw [Lib.cell_of_heap h6]
  simp [show i<cs.size by omega]
set_option maxRecDepth 100000 in
set_option maxHeartbeats 8000000 in
theorem scripts10_any (s:Scr)(L:List Val)(V0 V1:Value)(la:Option Addr)(ln lc:Nat)(w:World)(hs:ScIs w.cell? s V0 V1)(hsf:s.fits)(hI64:∀ f ∈ s.funcs,∀ x ∈ f.code,-9223372036854775808≤x.2∧x.2≤9223372036854775807)(hl:L.length=ln)(hm:ln*32≤140737488355328)(hV:Vs w la L)(hF:Fair L) :
  Calls Tryz.prog 4 #[.agg #[V0,V1],.slice la ln lc] w fun e w'=>e=.returned (.bool true)∧Below w.heap.size w w':=by
 obtain ⟨⟨a0,c0,rfl,n0⟩,⟨a1,c1,rfl,n1⟩⟩:=hs
 have hs:ScIs w.cell? s (.slice a0 s.consts.length c0) (.slice a1 s.funcs.length c1):=⟨⟨a0,c0,rfl,n0⟩,⟨a1,c1,rfl,n1⟩⟩
 obtain ⟨w0,hw0⟩:∃ w0,w0=w.alloc (.cells #[.slice a0 s.consts.length c0,.slice a1 s.funcs.length c1] 27):=⟨_,rfl⟩
 have b0:Below w.heap.size w w0:=by rw [hw0];exact (Below.refl _ w).alloc (Nat.le_refl _) _
 have e0:w0.heap[w.heap.size]?=some (.cells #[.slice a0 s.consts.length c0,.slice a1 s.funcs.length c1] 27 (0,0)):=by rw [hw0];exact heap_alloc_new w _
 obtain ⟨er,her⟩:∃ er,er=ofE s:=⟨_,rfl⟩
 have hf:er=0→s.right=true∧(allS s).1=0∧∃ o,ordS s.funcs.length (gF s)=some o:=fun h=>by rw [her] at h;exact ofe_facts h
 have HKn:Hid (∀ x0 d0 x1 d1 xb ya W,VS s L a0 c0 a1 c1 la x0 d0 x1 d1 xb ya w W→Calls Tryz.prog 11 #[] W fun e W1=>e=.returned (.bool true)∧SB4 W1 w.heap.size xb (.slice a0 s.consts.length c0) (.slice a1 s.funcs.length c1) (.slice x0 s.consts.length d0) (.slice x1 s.funcs.length d1)∧Hid (Below w.heap.size w W1)):=hid9 fun x0 d0 x1 d1 xb ya W h=>(knows10_any W).mono fun e W1 ⟨h1,h2⟩=>⟨h1,h.low h2,hid9 (h.bel.trans (h2.mono h.bel.size))⟩
 have HFi:Hid (∀ x0 d0 x1 d1 xb ya yc W,VS s L a0 c0 a1 c1 la x0 d0 x1 d1 xb ya w W→Calls Tryz.prog 16 #[.agg #[.slice x0 s.consts.length d0,.slice x1 s.funcs.length d1],.slice ya ln yc] W fun e W1=>e=.returned (.bool (fit10 s L))∧SB4 W1 w.heap.size xb (.slice a0 s.consts.length c0) (.slice a1 s.funcs.length c1) (.slice x0 s.consts.length d0) (.slice x1 s.funcs.length d1)∧Hid (VS s L a0 c0 a1 c1 la x0 d0 x1 d1 xb ya w W1)):=hid9 fun x0 d0 x1 d1 xb ya yc W h=>(fits10_any s _ _ ya ln yc L hl W h.scx hsf h.vy hF (by omega)).mono fun e W1 ⟨h1,h2⟩=>⟨h1,h.low h2,hid9 (h.keep h2)⟩
 have HRf:Hid (∀ x0 d0 x1 d1 xb ya W,VS s L a0 c0 a1 c1 la x0 d0 x1 d1 xb ya w W→Calls Tryz.prog 17 #[.agg #[.slice a0 s.consts.length c0,.slice a1 s.funcs.length c1],.slice la ln lc] W fun e W1=>e=.returned (.bool (fit10 s L))∧SB4 W1 w.heap.size xb (.slice a0 s.consts.length c0) (.slice a1 s.funcs.length c1) (.slice x0 s.consts.length d0) (.slice x1 s.funcs.length d1)∧Hid (VS s L a0 c0 a1 c1 la x0 d0 x1 d1 xb ya w W1)):=hid9 fun x0 d0 x1 d1 xb ya W h=>(rfits10_any s _ _ la ln lc L hl W h.scs hsf hI64 h.vl hF (by omega)).mono fun e W1 ⟨h1,h2⟩=>⟨h1,h.low h2,hid9 (h.keep h2)⟩
 have HSa:Hid (∀ x0 d0 x1 d1 xb ya W,VS s L a0 c0 a1 c1 la x0 d0 x1 d1 xb ya w W→Calls Tryz.prog 18 #[.agg #[.slice x0 s.consts.length d0,.slice x1 s.funcs.length d1],.agg #[.slice a0 s.consts.length c0,.slice a1 s.funcs.length c1]] W fun e W1=>e=.returned (.bool true)∧SB4 W1 w.heap.size xb (.slice a0 s.consts.length c0) (.slice a1 s.funcs.length c1) (.slice x0 s.consts.length d0) (.slice x1 s.funcs.length d1)∧Hid (VS s L a0 c0 a1 c1 la x0 d0 x1 d1 xb ya w W1)):=hid9 fun x0 d0 x1 d1 xb ya W h=>(rsame_any s s _ _ _ _ W h.scx h.scs hsf hsf).mono fun e W1 ⟨h1,h2⟩=>⟨by rw [h1,decide_eq_true rfl],h.low h2,hid9 (h.keep h2)⟩
 have HVs:Hid (∀ x0 d0 x1 d1 xb ya yc W,VS s L a0 c0 a1 c1 la x0 d0 x1 d1 xb ya w W→Calls Tryz.prog 19 #[.slice ya ln yc,.slice la ln lc] W fun e W1=>e=.returned (.bool true)∧SB4 W1 w.heap.size xb (.slice a0 s.consts.length c0) (.slice a1 s.funcs.length c1) (.slice x0 s.consts.length d0) (.slice x1 s.funcs.length d1)∧Hid (VS s L a0 c0 a1 c1 la x0 d0 x1 d1 xb ya w W1)):=hid9 fun x0 d0 x1 d1 xb ya yc W h=>(same_gen ya la ln ln yc lc L L hl hl W h.vy h.vl (by omega) (by omega)).mono fun e W1 ⟨h1,k,h2⟩=>by
  have hb:Below W.heap.size W W1:=by rw [h2];exact below_draws2 (Below.refl _ _) _
  exact ⟨by rw [h1,decide_eq_true rfl],h.low hb,hid9 (h.keep hb)⟩
 have HOf:Hid (∀ x0 d0 x1 d1 xb ya W,VS s L a0 c0 a1 c1 la x0 d0 x1 d1 xb ya w W→Calls Tryz.prog 14 #[.agg #[.slice x0 s.consts.length d0,.slice x1 s.funcs.length d1]] W fun e W1=>∃ p0 l0 p1 l1 p3 l3 p4 l4 p5 l5 p6 l6,e=.returned (.tuple #[.agg #[.slice p0 (rS er s).consts.length l0,.slice p1 (rS er s).funcs.length l1,.int .i64 (rG er s),.slice p3 (rS er s).funcs.length l3,.slice p4 (rS er s).funcs.length l4,.slice p5 (rS er s).funcs.length l5,.slice p6 (rS er s).funcs.length l6],.int .i64 er]) ∧
   SB4 (W1.alloc (.cells #[.slice p0 (rS er s).consts.length l0,.slice p1 (rS er s).funcs.length l1,.int .i64 (rG er s),.slice p3 (rS er s).funcs.length l3,.slice p4 (rS er s).funcs.length l4,.slice p5 (rS er s).funcs.length l5,.slice p6 (rS er s).funcs.length l6] 30)) w.heap.size xb (.slice a0 s.consts.length c0) (.slice a1 s.funcs.length c1) (.slice x0 s.consts.length d0) (.slice x1 s.funcs.length d1) ∧
   Hid (Calls Tryz.prog 15 #[.agg #[.slice a0 s.consts.length c0,.slice a1 s.funcs.length c1]] (W1.alloc (.cells #[.slice p0 (rS er s).consts.length l0,.slice p1 (rS er s).funcs.length l1,.int .i64 (rG er s),.slice p3 (rS er s).funcs.length l3,.slice p4 (rS er s).funcs.length l4,.slice p5 (rS er s).funcs.length l5,.slice p6 (rS er s).funcs.length l6] 30)) fun e W2=>∃ q0 m0 q1 m1 q3 m3 q4 m4 q5 m5 q6 m6,e=.returned (.tuple #[.agg #[.slice q0 (rS er s).consts.length m0,.slice q1 (rS er s).funcs.length m1,.int .i64 (rG er s),.slice q3 (rS er s).funcs.length m3,.slice q4 (rS er s).funcs.length m4,.slice q5 (rS er s).funcs.length m5,.slice q6 (rS er s).funcs.length m6],.int .i64 er]) ∧
    Cel7 (W2.alloc (.cells #[.slice q0 (rS er s).consts.length m0,.slice q1 (rS er s).funcs.length m1,.int .i64 (rG er s),.slice q3 (rS er s).funcs.length m3,.slice q4 (rS er s).funcs.length m4,.slice q5 (rS er s).funcs.length m5,.slice q6 (rS er s).funcs.length m6] 34)) W1.heap.size (.slice p0 (rS er s).consts.length l0) (.slice p1 (rS er s).funcs.length l1) (.int .i64 (rG er s)) (.slice p3 (rS er s).funcs.length l3) (.slice p4 (rS er s).funcs.length l4) (.slice p5 (rS er s).funcs.length l5) (.slice p6 (rS er s).funcs.length l6) ∧
    Hid (Calls Tryz.prog 8 #[.agg #[.slice p0 (rS er s).consts.length l0,.slice p1 (rS er s).funcs.length l1,.int .i64 (rG er s),.slice p3 (rS er s).funcs.length l3,.slice p4 (rS er s).funcs.length l4,.slice p5 (rS er s).funcs.length l5,.slice p6 (rS er s).funcs.length l6],.agg #[.slice q0 (rS er s).consts.length m0,.slice q1 (rS er s).funcs.length m1,.int .i64 (rG er s),.slice q3 (rS er s).funcs.length m3,.slice q4 (rS er s).funcs.length m4,.slice q5 (rS er s).funcs.length m5,.slice q6 (rS er s).funcs.length m6]] (W2.alloc (.cells #[.slice q0 (rS er s).consts.length m0,.slice q1 (rS er s).funcs.length m1,.int .i64 (rG er s),.slice q3 (rS er s).funcs.length m3,.slice q4 (rS er s).funcs.length m4,.slice q5 (rS er s).funcs.length m5,.slice q6 (rS er s).funcs.length m6] 34)) fun e W3=>e=.returned (.bool true)∧Hid (Lp10 W (rS er s).funcs.length W1.heap.size #[.slice p0 (rS er s).consts.length l0,.slice p1 (rS er s).funcs.length l1,.int .i64 (rG er s),.slice p3 (rS er s).funcs.length l3,.slice p4 (rS er s).funcs.length l4,.slice p5 (rS er s).funcs.length l5,.slice p6 (rS er s).funcs.length l6] p1 W3)))):=hid9 fun x0 d0 x1 d1 xb ya W h=>by
  refine (of_any s _ _ W h.scx hsf).mono fun e W1 hx=>?_
  have hx':RepEnd er s W e W1:=by
   rw [her]
   refine ⟨hx.1,?_⟩
   rcases hx.2 with g | ⟨g,v0,v1,sa,sc,da,dc,oa,oc,gg,d,o,g1,g2⟩
   ·exact .inl g
   ·exact .inr ⟨g,v0,v1,sa,sc,da,dc,oa,oc,gg,d,o,g1,g2.lowB (by omega)⟩
  have hx1:=hx.1
  obtain ⟨p0,l0,p1,l1,p3,l3,p4,l4,p5,l5,p6,l6,D,g1,g2,g5,_⟩:=rep_uni hx'
  refine ⟨p0,l0,p1,l1,p3,l3,p4,l4,p5,l5,p6,l6,g1,?_⟩
  generalize hX:Obj.cells _ 30=X
  obtain ⟨W2,hW2⟩:∃ W2,W2=W1.alloc X:=⟨_,rfl⟩
  have b2:Below W1.heap.size W1 W2:=by rw [hW2];exact (Below.refl _ _).alloc (Nat.le_refl _) _
  have e2:W2.heap[W1.heap.size]?=some X:=by rw [hW2];exact heap_alloc_new W1 _
  rw [← hX] at e2
  rw [← hW2]
  have k2:=hx1.trans (b2.mono hx1.size)
  refine ⟨h.low k2,hid9 ((rof_any s _ _ W2 (h.keep k2).scs hsf hI64).mono fun e W3 hy=>?_)⟩
  have hy':RRepEnd er s W2 e W3:=by rw [her];exact hy
  have hy1:=hy'.1
  obtain ⟨q0,m0,q1,m1,q3,m3,q4,m4,q5,m5,q6,m6,D',g3,g4⟩:=rrep_uni hy'
  refine ⟨q0,m0,q1,m1,q3,m3,q4,m4,q5,m5,q6,m6,g3,?_⟩
  generalize hY:Obj.cells _ 34=Y
  obtain ⟨W4,hW4⟩:∃ W4,W4=W3.alloc Y:=⟨_,rfl⟩
  have b4:Below W3.heap.size W3 W4:=by rw [hW4];exact (Below.refl _ _).alloc (Nat.le_refl _) _
  rw [← hW4]
  have b24:Below W2.heap.size W2 W4:=hy1.trans (b4.mono hy1.size)
  have b14:Below W1.heap.size W1 W4:=b2.trans (b24.mono b2.size)
  refine ⟨cel7_of ((b24.block _ (heap_lt e2)).trans e2),hid9 ((same_uni (g2.keep (below_keep b14)) (g4.keep (below_keep b4)) hf hsf).mono fun e W5 ⟨j1,j2⟩=>⟨j1,hid9 ?_⟩)⟩
  have b25:=b24.trans (j2.mono b24.size)
  have b15:=b2.trans (b25.mono b2.size)
  refine ⟨hx1.trans (b15.mono hx1.size),(b25.block _ (heap_lt e2)).trans e2,?_⟩
  rcases g5 with g5 | ⟨F,cs,f1,f2,f3,f4⟩
  ·exact .inl g5
  ·exact .inr ⟨F,cs,f1,f2,Nat.ne_of_lt (heap_lt f3),(b15.block _ (heap_lt f3)).trans f3,f4⟩
 have HOw:Hid (∀ x0 d0 x1 d1 W,ScIs W.cell? s (.slice x0 s.consts.length d0) (.slice x1 s.funcs.length d1)→Below w0.heap.size w0 W→Calls Tryz.prog 13 #[.slice la ln lc] (W.alloc (.cells #[.slice x0 s.consts.length d0,.slice x1 s.funcs.length d1] 27)) fun e W1=>∃ ya yc,e=.returned (.slice ya ln yc)∧SB4 W1 w.heap.size W.heap.size (.slice a0 s.consts.length c0) (.slice a1 s.funcs.length c1) (.slice x0 s.consts.length d0) (.slice x1 s.funcs.length d1)∧Hid (VS s L a0 c0 a1 c1 la x0 d0 x1 d1 W.heap.size ya w W1)):=hid9 fun x0 d0 x1 d1 W h1 h2=>by
  obtain ⟨W1,hW1⟩:∃ W1,W1=W.alloc (.cells #[.slice x0 s.consts.length d0,.slice x1 s.funcs.length d1] 27):=⟨_,rfl⟩
  have b1:Below W.heap.size W W1:=by rw [hW1];exact (Below.refl _ _).alloc (Nat.le_refl _) _
  have e1:W1.heap[W.heap.size]?=some (.cells #[.slice x0 s.consts.length d0,.slice x1 s.funcs.length d1] 27 (0,0)):=by rw [hW1];exact heap_alloc_new W _
  rw [← hW1]
  have k1:=h2.trans (b1.mono h2.size)
  have kw:=b0.trans (k1.mono b0.size)
  refine (own_any la ln lc L hl W1 (hV.keep kw) hm).mono fun e W2 ⟨ya,yc,g1,g2,g3⟩=>?_
  have V2:VS s L a0 c0 a1 c1 la x0 d0 x1 d1 W.heap.size ya w W2:=⟨kw.trans (g3.mono kw.size),(hs.keep (below_keep kw)).keep (below_keep g3),(h1.keep (below_keep b1)).keep (below_keep g3),(g3.block _ (heap_lt ((k1.block _ (heap_lt e0)).trans e0))).trans ((k1.block _ (heap_lt e0)).trans e0),(g3.block _ (heap_lt e1)).trans e1,(hV.keep kw).keep g3,g2⟩
  exact ⟨ya,yc,g1,V2.sb,hid9 V2⟩
 have HCl:Hid (Calls Tryz.prog 12 #[.agg #[.slice a0 s.consts.length c0,.slice a1 s.funcs.length c1]] (w.alloc (.cells #[.slice a0 s.consts.length c0,.slice a1 s.funcs.length c1] 27)) fun e W=>∃ x0 d0 x1 d1,e=.returned (.agg #[.slice x0 s.consts.length d0,.slice x1 s.funcs.length d1])∧Hid (ScIs W.cell? s (.slice x0 s.consts.length d0) (.slice x1 s.funcs.length d1)∧Below w0.heap.size w0 W)):=hid9 (by
  rw [← hw0]
  refine (rclone_all s _ _ w0 (hs.keep (below_keep b0)) hsf).mono fun e W1 h=>?_
  obtain ⟨x0,y0,x1,y1,h1,h2,h3⟩:=clone_hi h
  exact ⟨x0,y0,x1,y1,h1,hid9 ⟨h3.keep fun a x h=>(hiC_le h).2,h2⟩⟩)
 have hk16:(rS er s).funcs.length≤16:=by
  unfold rS
  split
  ·rename_i h;exact (right_calls (hf h).1).1
  ·decide
 have HVK:Hid (∀ {x0 d0 x1 d1 xb ya W W'},VS s L a0 c0 a1 c1 la x0 d0 x1 d1 xb ya w W→Below W.heap.size W W'→SB4 W' w.heap.size xb (.slice a0 s.consts.length c0) (.slice a1 s.funcs.length c1) (.slice x0 s.consts.length d0) (.slice x1 s.funcs.length d1)∧Hid (VS s L a0 c0 a1 c1 la x0 d0 x1 d1 xb ya w W')):=hid9 fun h hb=>⟨h.low hb,hid9 (h.keep hb)⟩
 have HDr:Hid (∀ {x0 d0 x1 d1 xb ya W},VS s L a0 c0 a1 c1 la x0 d0 x1 d1 xb ya w W→VS s L a0 c0 a1 c1 la x0 d0 x1 d1 xb ya w W.drew):=hid9 fun h=>h.keep (Below.refl _ _).drew
 clear n0 n1 hs b0 e0 her hf hsf hI64 hl hV hF hw0 hm
 generalize (rS er s).consts.length=k0 at *
 generalize (rS er s).funcs.length=k1 at *
 generalize rG er s=gv at *
 generalize fit10 s L=ft at *
 obtain ⟨VSf,hVSf⟩:∃ VSf,VSf=VS s L a0 c0 a1 c1 la:=⟨_,rfl⟩
 rw [← hVSf] at HKn HFi HRf HSa HVs HOf HOw HVK HDr
 clear hVSf
 have HCl':=HCl
 clear HCl
 generalize s.consts.length=scl at *
 generalize s.funcs.length=sfl at *
 go_enter Tryz.func4,Tryz.ntmps4
 go_wp2_with (first
  | (go_at_call 12;refine HCl'.out.mono ?_;clear HCl';rintro e W0 ⟨x0,d0,x1,d1,rfl,K0⟩)
  | (go_at_call 13;refine (HOw.out _ _ _ _ _ K0.out.1 K0.out.2).mono ?_;clear HOw K0;rintro e W1 ⟨ya,yc,rfl,⟨s0,s1,z0,z1⟩,K1⟩)
  | (go_at_call 14;refine (HOf.out _ _ _ _ _ _ _ K1.out).mono ?_;clear HOf;rintro e W2 ⟨p0,l0,p1,l1,p3,l3,p4,l4,p5,l5,p6,l6,rfl,⟨s0,s1,z0,z1⟩,HA⟩)
  | (go_at_call 15;refine HA.out.mono ?_;clear HA;rintro e W3 ⟨q0,m0,q1,m1,q3,m3,q4,m4,q5,m5,q6,m6,rfl,⟨r0,r1,r2,r3,r4,r5,r6⟩,HA⟩)
  | (go_at_call 8;refine HA.out.mono ?_;clear HA;rintro e W4 ⟨rfl,HL⟩)
  | (go_at_call 9;refine (num10_any _ _).mono ?_;rintro e W9 ⟨rfl,w9e⟩;rw [w9e];clear w9e)
  | fail)
 go_loopw [12] (fun iv wr=>∃ k:Nat,iv=.int .i64 k∧k≤k1∧Hid (Lp10 W1 k1 W2.heap.size #[.slice p0 k0 l0,.slice p1 k1 l1,.int .i64 gv,.slice p3 k1 l3,.slice p4 k1 l4,.slice p5 k1 l5,.slice p6 k1 l6] p1 wr)) (fun iv _=>k1 - (intOf iv).toNat)
 case atStart=>exact ⟨0,rfl,Nat.zero_le _,HL⟩
 case round =>
  obtain ⟨k,rfl,hk,HI⟩:=hrel
  clear HL
  have y1:wr.cell? ⟨W2.heap.size,1,none⟩=some (.slice p1 k1 l1):=Lib.cell_of_heap HI.out.2.1 1
  by_cases hlt:k<k1
  ·obtain ⟨F,hpF,hFr⟩:∃ F,p1=some ⟨F,0,none⟩∧F≠W2.heap.size:=by
    rcases HI.out.2.2 with h | ⟨F,_,h,_,h2,_⟩
    ·omega
    ·exact ⟨F,h,h2⟩
   subst hpF
   obtain ⟨⟨u3,g3⟩,f3⟩:=lp10_cell HI.out (i:=k*4+3) (by omega)
   obtain ⟨⟨u0,g0⟩,f0⟩:=lp10_cell HI.out (i:=k*4) (by omega)
   have HE:=hid9 (lp10_set (i:=k*4) (v:=.slice none 0 0) (lp10_set (i:=k*4+3) (v:=.slice none 0 0) HI.out (by omega)) (by omega))
   clear HI
   go_wp2_with fail
   exact ⟨⟨k+1,by go_num,by omega,HE⟩,by simp [intOf];omega⟩
  ·have e:k=k1:=by omega
   subst e
   obtain ⟨⟨s0,s1,z0,z1⟩,V⟩:=HVK.out K1.out HI.out.1
   clear HI HVK K1
   go_wp2_with fail
   go_region_held3 (fun W=>W.cell? ⟨w.heap.size,0,none⟩=some (.slice a0 scl c0)∧W.cell? ⟨w.heap.size,1,none⟩=some (.slice a1 sfl c1)∧W.cell? ⟨W0.heap.size,0,none⟩=some (.slice x0 scl d0)∧W.cell? ⟨W0.heap.size,1,none⟩=some (.slice x1 sfl d1)) (first | exact ⟨s0,s1,z0,z1⟩ | exact hB5 | exact hB6 | exact hB7 | exact hB8 | exact hB9 | fail) (first
    | (go_at_call 16;refine (HFi.out _ _ _ _ _ _ _ _ (HDr.out V.out)).mono ?_;clear HFi V;rintro e W5 ⟨rfl,hB5,V⟩)
    | (go_at_call 17;refine (HRf.out _ _ _ _ _ _ _ V.out).mono ?_;clear HRf V;rintro e W6 ⟨rfl,hB6,V⟩)
    | (go_at_call 18;refine (HSa.out _ _ _ _ _ _ _ V.out).mono ?_;clear HSa V;rintro e W7 ⟨rfl,hB7,V⟩)
    | (go_at_call 19;refine (HVs.out _ _ _ _ _ _ _ _ V.out).mono ?_;clear HVs V;rintro e W8 ⟨rfl,hB8,V⟩)
    | (go_at_call 11;refine (HKn.out _ _ _ _ _ _ _ V.out).mono ?_;clear HKn V;rintro e W9 ⟨rfl,hB9,V⟩))
   all_goals
    go_wp2_with fail
    go_ret
    exact ⟨rfl,V.out⟩
end Go.Proofs.YtpmlnkjamhelnaaGreat
