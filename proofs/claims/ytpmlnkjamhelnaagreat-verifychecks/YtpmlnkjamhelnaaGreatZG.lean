/- Layer 10: verify.Of of any script. Layer 10: verify.Check of any bytes. Layer 10: what the law knows. -/
import Derived.Test.YtpmlnkjamhelnaaGreatZF
import Derived.Test.YtpmlnkjamhelnaaGreatGM
namespace Go.Proofs.YtpmlnkjamhelnaaGreat
open Go.RowKit
theorem load_rep {w:World}{b:Nat}{x0 x1 x2 x3 x4 x5 x6:Value}(h0:w.cell? ⟨b,0,none⟩=some x0)(h1:w.cell? ⟨b,1,none⟩=some x1)(h2:w.cell? ⟨b,2,none⟩=some x2)(h3:w.cell? ⟨b,3,none⟩=some x3)(h4:w.cell? ⟨b,4,none⟩=some x4)(h5:w.cell? ⟨b,5,none⟩=some x5)(h6:w.cell? ⟨b,6,none⟩=some x6):(loadVar 30 ⟨b,0,none⟩).run Tryz.prog w=.ok (.agg #[x0,x1,x2,x3,x4,x5,x6]) w:=by
 simp [loadVar,go_sem,h0,h1,h2,h3,h4,h5,h6]
def set7 (W:World)(b:Nat)(x0 x1 x2 x3 x4 x5 x6:Value):World:=((((((W.setCell ⟨b,0,none⟩ x0).setCell ⟨b,1,none⟩ x1).setCell ⟨b,2,none⟩ x2).setCell ⟨b,3,none⟩ x3).setCell ⟨b,4,none⟩ x4).setCell ⟨b,5,none⟩ x5).setCell ⟨b,6,none⟩ x6
theorem set7_blk {W:World}{b:Nat}(h:W.heap[b]?=some (.cells zero7 30 (0,0)))(x0 x1 x2 x3 x4 x5 x6:Value):(set7 W b x0 x1 x2 x3 x4 x5 x6).heap[b]?=some (.cells #[x0,x1,x2,x3,x4,x5,x6] 30 (0,0)):=by
 unfold set7
 have e0:=heap_setCell_same W b 0 _ _ x0 h
 have e1:=heap_setCell_same _ b 1 _ _ x1 e0
 have e2:=heap_setCell_same _ b 2 _ _ x2 e1
 have e3:=heap_setCell_same _ b 3 _ _ x3 e2
 have e4:=heap_setCell_same _ b 4 _ _ x4 e3
 have e5:=heap_setCell_same _ b 5 _ _ x5 e4
 have e6:=heap_setCell_same _ b 6 _ _ x6 e5
 rw [e6]
 rfl
theorem ret_rep {fn:Func}{R:Ending→World→Prop}{a:Act}{t u:Tmp}{W:World}{b:Nat}{x0 x1 x2 x3 x4 x5 x6 z:Value}(h:fn.results=#[.cell t 30,.tmp u])(ha:a.tmps[t]?.getD undef=.pointer (some ⟨b,0,none⟩))(hd:a.defers=[])(hu:a.tmps[u]?.getD undef=z)(hb:W.heap[b]?=some (.cells zero7 30 (0,0)))(hR:R (.returned (.tuple #[.agg #[x0,x1,x2,x3,x4,x5,x6],z])) (set7 W b x0 x1 x2 x3 x4 x5 x6)):bodyPost Tryz.prog fn R .ret a (set7 W b x0 x1 x2 x3 x4 x5 x6):=by
 have e:=set7_blk hb x0 x1 x2 x3 x4 x5 x6
 have hl:=load_rep (x0:=x0) (x1:=x1) (x2:=x2) (x3:=x3) (x4:=x4) (x5:=x5) (x6:=x6) (Lib.cell_of_heap e 0) (Lib.cell_of_heap e 1) (Lib.cell_of_heap e 2) (Lib.cell_of_heap e 3) (Lib.cell_of_heap e 4) (Lib.cell_of_heap e 5) (Lib.cell_of_heap e 6)
 have h1:=results_mix4 h _ _ _ _ _ ha hl
 rw [hu] at h1
 exact bodyPost_ret h1 hd hR
theorem RowN.set7 {B b:Nat}{W:World}{a:Option Addr}{ns:List Int}{x0 x1 x2 x3 x4 x5 x6:Value}(h:RowN B W a ns)(hb:b<B):RowN B (set7 W b x0 x1 x2 x3 x4 x5 x6) a ns:=((((((h.set hb).set hb).set hb).set hb).set hb).set hb).set hb
theorem own_set7 {W:World}{base b:Nat}{s:Scr}{v0 v1 x0 x1 x2 x3 x4 x5 x6:Value}(h:ScrOwn W base s v0 v1)(hb:b<base):ScrOwn (set7 W b x0 x1 x2 x3 x4 x5 x6) base s v0 v1:=own_set (own_set (own_set (own_set (own_set (own_set (own_set h hb) hb) hb) hb) hb) hb) hb
theorem below_set7 {B b:Nat}{w W:World}{x0 x1 x2 x3 x4 x5 x6:Value}(h:Below B w W)(hb:B≤b):Below B w (set7 W b x0 x1 x2 x3 x4 x5 x6):=by
 unfold set7
 exact ((((((h.setCell (p:=⟨b,0,none⟩) hb _).setCell (p:=⟨b,1,none⟩) hb _).setCell (p:=⟨b,2,none⟩) hb _).setCell (p:=⟨b,3,none⟩) hb _).setCell (p:=⟨b,4,none⟩) hb _).setCell (p:=⟨b,5,none⟩) hb _).setCell (p:=⟨b,6,none⟩) hb _
structure RepIs (s:Scr)(B:Nat)(W:World)(v0 v1:Value)(sa da oa:Option Addr)(g:Nat)(d:Nat→Nat)(o:List Nat):Prop where
 right:s.right=true
 all:(allS s).1=0
 tot:(totS s).1=0
 ord:ordS s.funcs.length (gF s)=some o
 own:∃ base,B≤base∧ScrOwn W base s v0 v1
 st:RowN B W sa (allS s).2
 dp:RowN B W da (deepL s d)
 dpi:DeepIs s.funcs.length (gF s) d
 od:RowN B W oa (rowI o)
 rm:RowN B W (some ⟨g,0,none⟩) (roomsS s (allS s).2 o)
def OfEnd (s:Scr)(w:World)(e:Ending)(w':World):Prop:=Below w.heap.size w w'∧((ofE s≠0∧e=.returned (.tuple #[.agg zero7,.int .i64 (ofE s)])) ∨
 (ofE s=0∧∃ v0 v1 sa sc da dc oa oc g d o,e=.returned (.tuple #[.agg #[v0,v1,.int .i64 (totS s).2,.slice sa s.funcs.length sc,.slice da s.funcs.length dc,.slice oa s.funcs.length oc,.slice (some ⟨g,0,none⟩) s.funcs.length s.funcs.length],.int .i64 0])∧RepIs s (w.heap.size+6) w' v0 v1 sa da oa g d o))
theorem ofs_done {s:Scr}{w W:World}{B rb:Nat}{D:List Value}(hB:B=w.heap.size+6)(hrb:w.heap.size≤rb)(hrB:rb<B)(hb:Below w.heap.size w W)(hI:Inv10 s B 7 D W):∃ x0 y0 x1 y1 sa sc da dc oa oc g,D=[.slice x0 s.consts.length y0,.slice x1 s.funcs.length y1,.int .i64 (totS s).2,.slice sa s.funcs.length sc,.slice da s.funcs.length dc,.slice oa s.funcs.length oc,.slice (some ⟨g,0,none⟩) s.funcs.length s.funcs.length,D.getD 7 undef]∧OfEnd s w (.returned (.tuple #[.agg #[.slice x0 s.consts.length y0,.slice x1 s.funcs.length y1,.int .i64 (totS s).2,.slice sa s.funcs.length sc,.slice da s.funcs.length dc,.slice oa s.funcs.length oc,.slice (some ⟨g,0,none⟩) s.funcs.length s.funcs.length],.int .i64 0])) (set7 W rb (.slice x0 s.consts.length y0) (.slice x1 s.funcs.length y1) (.int .i64 (totS s).2) (.slice sa s.funcs.length sc) (.slice da s.funcs.length dc) (.slice oa s.funcs.length oc) (.slice (some ⟨g,0,none⟩) s.funcs.length s.funcs.length)):=by
 obtain ⟨hr,v0,v1,base,q0,q1,hbase,hO⟩:=hI.p1 (by omega)
 obtain ⟨ha,sa,sc,q3,hRs⟩:=hI.p2 (by omega)
 obtain ⟨o,oa,oc,ho,q5,hRo⟩:=hI.p3 (by omega)
 obtain ⟨ht,q2⟩:=hI.p4 (by omega)
 obtain ⟨da,dc,d,q4,hRd,hDi⟩:=hI.p5 (by omega)
 obtain ⟨g,o',ho',q6,hRr⟩:=hI.p7 (by omega)
 rw [ho] at ho'
 cases ho'
 obtain ⟨hol,_⟩:=ord_told (n:=s.funcs.length) (g:=gF s) ho
 rw [hol] at q5
 rw [(all_bounds hr ha).1] at q3
 obtain ⟨⟨x0,y0,z0,_⟩,⟨x1,y1,z1,_⟩⟩:=own_is hO
 subst z0;subst z1
 refine ⟨x0,y0,x1,y1,sa,sc,da,dc,oa,oc,g,?_,below_set7 hb hrb,.inr ⟨?_,_,_,sa,sc,da,dc,oa,oc,g,d,o,rfl,?_⟩⟩
 ·match D,hI.len with
  | [d0,d1,d2,d3,d4,d5,d6,d7],_ =>
   simp only [List.getElem?_cons_zero,List.getElem?_cons_succ,Option.some.injEq] at q0 q1 q2 q3 q4 q5 q6
   subst q0 q1 q2 q3 q4 q5 q6
   rfl
 ·rw [ofE,if_pos hr,if_pos ha,ho]
  simpa using ht
 ·subst hB
  exact ⟨hr,ha,ht,ho,⟨base,hbase,own_set7 hO (by omega)⟩,hRs.set7 hrB,hRd.set7 hrB,hDi,hRo.set7 hrB,hRr.set7 hrB⟩
theorem ofs_bad {s:Scr}{w W:World}{rb:Nat}(h:ofE s≠0)(hrb:w.heap.size≤rb)(hb:Below w.heap.size w W):OfEnd s w (.returned (.tuple #[.agg #[.slice none 0 0,.slice none 0 0,.int .i64 0,.slice none 0 0,.slice none 0 0,.slice none 0 0,.slice none 0 0],.int .i64 (ofE s)])) (set7 W rb (.slice none 0 0) (.slice none 0 0) (.int .i64 0) (.slice none 0 0) (.slice none 0 0) (.slice none 0 0) (.slice none 0 0)):=⟨below_set7 hb hrb,.inl ⟨h,rfl⟩⟩
def May7 (W:World)(b:Nat):Prop:=(∃ u,W.cell? ⟨b,0,none⟩=some u)∧(∃ u,W.cell? ⟨b,1,none⟩=some u)∧(∃ u,W.cell? ⟨b,2,none⟩=some u)∧(∃ u,W.cell? ⟨b,3,none⟩=some u)∧(∃ u,W.cell? ⟨b,4,none⟩=some u)∧(∃ u,W.cell? ⟨b,5,none⟩=some u)∧(∃ u,W.cell? ⟨b,6,none⟩=some u)
def Go10P (s:Scr)(w:World)(V0 V1:Value)(k:Nat)(D:List Value)(W:World):Prop:=St10 w (w.heap.size+1+1) (w.heap.size+1+1+1) (w.heap.size+1+1+1+1) V0 V1 D W∧W.heap[w.heap.size+1]?=some (.cells zero7 30 (0,0))∧Inv10 s (w.heap.size+6) k D W∧w.heap.size+6≤W.heap.size
def Go10Q (s:Scr)(w:World)(V0 V1:Value)(k:Nat)(e:Ending)(W':World):Prop:=∃ er,e=.returned (.int .i64 er)∧May7 W' (w.heap.size+1)∧(∀ i,W'.frozen? ⟨w.heap.size+1,i,none⟩=false)∧Hid ((er≠0∧er=ofE s∧Below w.heap.size w W'∧W'.heap[w.heap.size+1]?=some (.cells zero7 30 (0,0)))∨(er=0∧∃ D',Go10P s w V0 V1 k D' W'))
theorem go10_q {s:Scr}{w:World}{V0 V1:Value}{k:Nat}{e:Ending}{W':World}{er:Int}{D':List Value}(e1:e=.returned (.int .i64 er))(q1:St10 w (w.heap.size+1+1) (w.heap.size+1+1+1) (w.heap.size+1+1+1+1) V0 V1 D' W')(q2:W'.heap[w.heap.size+1]?=some (.cells zero7 30 (0,0)))(q3:(er≠0∧er=ofE s)∨(er=0∧Inv10 s (w.heap.size+6) k D' W')):Go10Q s w V0 V1 k e W':=by
 refine ⟨er,e1,⟨⟨_,Lib.cell_of_heap q2 0⟩,⟨_,Lib.cell_of_heap q2 1⟩,⟨_,Lib.cell_of_heap q2 2⟩,⟨_,Lib.cell_of_heap q2 3⟩,⟨_,Lib.cell_of_heap q2 4⟩,⟨_,Lib.cell_of_heap q2 5⟩,⟨_,Lib.cell_of_heap q2 6⟩⟩,fun i=>Lib.frozen_of_heap q2 i,hid9 ?_⟩
 rcases q3 with ⟨q3,q4⟩ | ⟨q3,q4⟩
 ·exact .inl ⟨q3,q4,q1.low,q2⟩
 ·exact .inr ⟨q3,D',q1,q2,q4,by have:=heap_lt q1.g;omega⟩
set_option maxRecDepth 100000 in
set_option maxHeartbeats 4000000 in
theorem of_any (s:Scr)(V0 V1:Value)(w:World)(hs:ScIs w.cell? s V0 V1)(hsf:s.fits):Calls Tryz.prog 14 #[.agg #[V0,V1]] w (OfEnd s w):=by
 obtain ⟨⟨a0,c0,rfl,n0⟩,⟨a1,c1,rfl,n1⟩⟩:=hs
 have hs:ScIs w.cell? s (.slice a0 s.consts.length c0) (.slice a1 s.funcs.length c1):=⟨⟨a0,c0,rfl,n0⟩,⟨a1,c1,rfl,n1⟩⟩
 obtain ⟨W6,hW6⟩:∃ W6,W6=((((((w.alloc (.cells #[.slice a0 s.consts.length c0,.slice a1 s.funcs.length c1] 27)).alloc (.cells #[.slice none 0 0,.slice none 0 0,.int .i64 0,.slice none 0 0,.slice none 0 0,.slice none 0 0,.slice none 0 0] 30)).alloc (.cells #[.slice none 0 0,.slice none 0 0,.int .i64 0,.slice none 0 0,.slice none 0 0,.slice none 0 0,.slice none 0 0,.slice none 0 0] 60)).alloc (.cells #[.slice a0 s.consts.length c0,.slice a1 s.funcs.length c1] 27)).alloc (.cells #[.pointer (some ⟨w.heap.size+1+1,0,none⟩)] 63)).alloc (.cells (stepV (w.heap.size+1+1+1) (w.heap.size+1+1+1+1)).toArray 64)):=⟨_,rfl⟩
 have hstart:Hid (St10 w (w.heap.size+1+1) (w.heap.size+1+1+1) (w.heap.size+1+1+1+1) (.slice a0 s.consts.length c0) (.slice a1 s.funcs.length c1) [.slice none 0 0,.slice none 0 0,.int .i64 0,.slice none 0 0,.slice none 0 0,.slice none 0 0,.slice none 0 0,.slice none 0 0] W6∧W6.heap[w.heap.size+1]?=some (.cells zero7 30 (0,0))∧Inv10 s (w.heap.size+6) 0 [.slice none 0 0,.slice none 0 0,.int .i64 0,.slice none 0 0,.slice none 0 0,.slice none 0 0,.slice none 0 0,.slice none 0 0] W6∧w.heap.size+6≤W6.heap.size):=hid9 (by
  obtain ⟨u1,hu1⟩:∃ u,u=w.alloc (.cells #[.slice a0 s.consts.length c0,.slice a1 s.funcs.length c1] 27):=⟨_,rfl⟩
  obtain ⟨u2,hu2⟩:∃ u,u=u1.alloc (.cells #[.slice none 0 0,.slice none 0 0,.int .i64 0,.slice none 0 0,.slice none 0 0,.slice none 0 0,.slice none 0 0] 30):=⟨_,rfl⟩
  obtain ⟨u3,hu3⟩:∃ u,u=u2.alloc (.cells #[.slice none 0 0,.slice none 0 0,.int .i64 0,.slice none 0 0,.slice none 0 0,.slice none 0 0,.slice none 0 0,.slice none 0 0] 60):=⟨_,rfl⟩
  obtain ⟨u4,hu4⟩:∃ u,u=u3.alloc (.cells #[.slice a0 s.consts.length c0,.slice a1 s.funcs.length c1] 27):=⟨_,rfl⟩
  obtain ⟨u5,hu5⟩:∃ u,u=u4.alloc (.cells #[.pointer (some ⟨w.heap.size+1+1,0,none⟩)] 63):=⟨_,rfl⟩
  rw [← hu1,← hu2,← hu3,← hu4,← hu5] at hW6
  have z1:u1.heap.size=w.heap.size+1:=by rw [hu1];simp
  have z2:u2.heap.size=w.heap.size+1+1:=by rw [hu2];simp [z1]
  have z3:u3.heap.size=w.heap.size+1+1+1:=by rw [hu3];simp [z2]
  have z4:u4.heap.size=w.heap.size+1+1+1+1:=by rw [hu4];simp [z3]
  have z5:u5.heap.size=w.heap.size+1+1+1+1+1:=by rw [hu5];simp [z4]
  have z6:W6.heap.size=w.heap.size+1+1+1+1+1+1:=by rw [hW6];simp [z5]
  have b1:Below w.heap.size w u1:=by rw [hu1];exact (Below.refl _ _).alloc (Nat.le_refl _) _
  have b2:Below u1.heap.size u1 u2:=by rw [hu2];exact (Below.refl _ _).alloc (Nat.le_refl _) _
  have b3:Below u2.heap.size u2 u3:=by rw [hu3];exact (Below.refl _ _).alloc (Nat.le_refl _) _
  have b4:Below u3.heap.size u3 u4:=by rw [hu4];exact (Below.refl _ _).alloc (Nat.le_refl _) _
  have b5:Below u4.heap.size u4 u5:=by rw [hu5];exact (Below.refl _ _).alloc (Nat.le_refl _) _
  have b6:Below u5.heap.size u5 W6:=by rw [hW6];exact (Below.refl _ _).alloc (Nat.le_refl _) _
  have k5:Below u4.heap.size u4 W6:=b5.trans (b6.mono b5.size)
  have k4:Below u3.heap.size u3 W6:=b4.trans (k5.mono b4.size)
  have k3:Below u2.heap.size u2 W6:=b3.trans (k4.mono b3.size)
  have k2:Below u1.heap.size u1 W6:=b2.trans (k3.mono b2.size)
  have k1:Below w.heap.size w W6:=b1.trans (k2.mono b1.size)
  have g2:W6.heap[w.heap.size+1]?=some (.cells zero7 30 (0,0)):=by
   rw [k3.block _ (by omega),hu2,← z1];exact heap_alloc_new _ _
  have g3:W6.heap[w.heap.size+1+1]?=some (.cells #[.slice none 0 0,.slice none 0 0,.int .i64 0,.slice none 0 0,.slice none 0 0,.slice none 0 0,.slice none 0 0,.slice none 0 0] 60 (0,0)):=by
   rw [k4.block _ (by omega),hu3,← z2];exact heap_alloc_new _ _
  have g4:W6.heap[w.heap.size+1+1+1]?=some (.cells #[.slice a0 s.consts.length c0,.slice a1 s.funcs.length c1] 27 (0,0)):=by
   rw [k5.block _ (by omega),hu4,← z3];exact heap_alloc_new _ _
  have g5:W6.heap[w.heap.size+1+1+1+1]?=some (.cells #[.pointer (some ⟨w.heap.size+1+1,0,none⟩)] 63 (0,0)):=by
   rw [b6.block _ (by omega),hu5,← z4];exact heap_alloc_new _ _
  have g6:W6.heap[w.heap.size+1+1+1+1+1]?=some (.cells (stepV (w.heap.size+1+1+1) (w.heap.size+1+1+1+1)).toArray 64 (0,0)):=by
   rw [hW6,← z5];exact heap_alloc_new _ _
  exact ⟨⟨k1,g3,g4,g5,g6,by omega,by omega,by omega,by omega⟩,g2,⟨rfl,fun h=>by omega,fun h=>by omega,fun h=>by omega,fun h=>by omega,fun h=>by omega,fun h=>by omega,fun h=>by omega,fun _=>rfl⟩,by omega⟩)
 have HG1:Hid (∀ D W,Go10P s w (.slice a0 s.consts.length c0) (.slice a1 s.funcs.length c1) 0 D W→Calls Tryz.prog 42 #[.pointer (some ⟨w.heap.size+1+1+1,0,none⟩),.pointer (some ⟨w.heap.size+1+1+1+1,0,none⟩)] W (Go10Q s w (.slice a0 s.consts.length c0) (.slice a1 s.funcs.length c1) 1)):=hid9 fun D W ⟨h1,h2,h3,h4⟩=>(go1 s a0 a1 c0 c1 w (w.heap.size+6) (w.heap.size+1+1) (w.heap.size+1+1+1) (w.heap.size+1+1+1+1) (w.heap.size+1) D W hs hsf h1 h3 h2 (by omega) (by omega) h4).mono fun e W' ⟨er,D',e1,q1,q2,q3⟩=>go10_q e1 q1 q2 q3
 have HG2:Hid (∀ D W,Go10P s w (.slice a0 s.consts.length c0) (.slice a1 s.funcs.length c1) 1 D W→Calls Tryz.prog 44 #[.pointer (some ⟨w.heap.size+1+1+1,0,none⟩),.pointer (some ⟨w.heap.size+1+1+1+1,0,none⟩)] W (Go10Q s w (.slice a0 s.consts.length c0) (.slice a1 s.funcs.length c1) 2)):=hid9 fun D W ⟨h1,h2,h3,h4⟩=>(go2 s a0 a1 c0 c1 w (w.heap.size+6) (w.heap.size+1+1) (w.heap.size+1+1+1) (w.heap.size+1+1+1+1) (w.heap.size+1) D W hs hsf h1 h3 h2 (by omega) (by omega) h4).mono fun e W' ⟨er,D',e1,q1,q2,q3⟩=>go10_q e1 q1 q2 q3
 have HG3:Hid (∀ D W,Go10P s w (.slice a0 s.consts.length c0) (.slice a1 s.funcs.length c1) 2 D W→Calls Tryz.prog 46 #[.pointer (some ⟨w.heap.size+1+1+1,0,none⟩),.pointer (some ⟨w.heap.size+1+1+1+1,0,none⟩)] W (Go10Q s w (.slice a0 s.consts.length c0) (.slice a1 s.funcs.length c1) 3)):=hid9 fun D W ⟨h1,h2,h3,h4⟩=>(go3 s a0 a1 c0 c1 w (w.heap.size+6) (w.heap.size+1+1) (w.heap.size+1+1+1) (w.heap.size+1+1+1+1) (w.heap.size+1) D W hs hsf h1 h3 h2 (by omega) (by omega) h4).mono fun e W' ⟨er,D',e1,q1,q2,q3⟩=>go10_q e1 q1 q2 q3
 have HG4:Hid (∀ D W,Go10P s w (.slice a0 s.consts.length c0) (.slice a1 s.funcs.length c1) 3 D W→Calls Tryz.prog 48 #[.pointer (some ⟨w.heap.size+1+1+1,0,none⟩),.pointer (some ⟨w.heap.size+1+1+1+1,0,none⟩)] W (Go10Q s w (.slice a0 s.consts.length c0) (.slice a1 s.funcs.length c1) 4)):=hid9 fun D W ⟨h1,h2,h3,h4⟩=>(go4 s a0 a1 c0 c1 w (w.heap.size+6) (w.heap.size+1+1) (w.heap.size+1+1+1) (w.heap.size+1+1+1+1) (w.heap.size+1) D W hs hsf h1 h3 h2 (by omega) (by omega) h4).mono fun e W' ⟨er,D',e1,q1,q2,q3⟩=>go10_q e1 q1 q2 q3
 have HG5:Hid (∀ D W,Go10P s w (.slice a0 s.consts.length c0) (.slice a1 s.funcs.length c1) 4 D W→Calls Tryz.prog 50 #[.pointer (some ⟨w.heap.size+1+1+1,0,none⟩),.pointer (some ⟨w.heap.size+1+1+1+1,0,none⟩)] W (Go10Q s w (.slice a0 s.consts.length c0) (.slice a1 s.funcs.length c1) 5)):=hid9 fun D W ⟨h1,h2,h3,h4⟩=>(go5 s a0 a1 c0 c1 w (w.heap.size+6) (w.heap.size+1+1) (w.heap.size+1+1+1) (w.heap.size+1+1+1+1) (w.heap.size+1) D W hs hsf h1 h3 h2 (by omega) (by omega) h4).mono fun e W' ⟨er,D',e1,q1,q2,q3⟩=>go10_q e1 q1 q2 q3
 have HG6:Hid (∀ D W,Go10P s w (.slice a0 s.consts.length c0) (.slice a1 s.funcs.length c1) 5 D W→Calls Tryz.prog 52 #[.pointer (some ⟨w.heap.size+1+1+1,0,none⟩),.pointer (some ⟨w.heap.size+1+1+1+1,0,none⟩)] W (Go10Q s w (.slice a0 s.consts.length c0) (.slice a1 s.funcs.length c1) 6)):=hid9 fun D W ⟨h1,h2,h3,h4⟩=>(go6 s a0 a1 c0 c1 w (w.heap.size+6) (w.heap.size+1+1) (w.heap.size+1+1+1) (w.heap.size+1+1+1+1) (w.heap.size+1) D W hs hsf h1 h3 h2 (by omega) (by omega) h4).mono fun e W' ⟨er,D',e1,q1,q2,q3⟩=>go10_q e1 q1 q2 q3
 have HG7:Hid (∀ D W,Go10P s w (.slice a0 s.consts.length c0) (.slice a1 s.funcs.length c1) 6 D W→Calls Tryz.prog 54 #[.pointer (some ⟨w.heap.size+1+1+1+1,0,none⟩)] W (Go10Q s w (.slice a0 s.consts.length c0) (.slice a1 s.funcs.length c1) 7)):=hid9 fun D W ⟨h1,h2,h3,h4⟩=>(go7 s a0 a1 c0 c1 w (w.heap.size+6) (w.heap.size+1+1) (w.heap.size+1+1+1) (w.heap.size+1+1+1+1) (w.heap.size+1) D W hsf h1 h3 h2 (by omega) (by omega) h4).mono fun e W' ⟨er,D',e1,q1,q2,q3⟩=>go10_q e1 q1 q2 q3
 have eF1:∀ args w,(callFunc 42 args).run Tryz.prog w=.ok (.enter 42 args) w:=enters_of Tryz.func42 (by kernel_rfl) rfl
 have eF2:∀ args w,(callFunc 44 args).run Tryz.prog w=.ok (.enter 44 args) w:=enters_of Tryz.func44 (by kernel_rfl) rfl
 have eF3:∀ args w,(callFunc 46 args).run Tryz.prog w=.ok (.enter 46 args) w:=enters_of Tryz.func46 (by kernel_rfl) rfl
 have eF4:∀ args w,(callFunc 48 args).run Tryz.prog w=.ok (.enter 48 args) w:=enters_of Tryz.func48 (by kernel_rfl) rfl
 have eF5:∀ args w,(callFunc 50 args).run Tryz.prog w=.ok (.enter 50 args) w:=enters_of Tryz.func50 (by kernel_rfl) rfl
 have eF6:∀ args w,(callFunc 52 args).run Tryz.prog w=.ok (.enter 52 args) w:=enters_of Tryz.func52 (by kernel_rfl) rfl
 have eF7:∀ args w,(callFunc 54 args).run Tryz.prog w=.ok (.enter 54 args) w:=enters_of Tryz.func54 (by kernel_rfl) rfl
 have HBad:Hid (∀ W,ofE s≠0→Below w.heap.size w W→W.heap[w.heap.size+1]?=some (.cells zero7 30 (0,0))→OfEnd s w (.returned (.tuple #[.agg #[.slice none 0 0,.slice none 0 0,.int .i64 0,.slice none 0 0,.slice none 0 0,.slice none 0 0,.slice none 0 0],.int .i64 (ofE s)])) (set7 W (w.heap.size+1) (.slice none 0 0) (.slice none 0 0) (.int .i64 0) (.slice none 0 0) (.slice none 0 0) (.slice none 0 0) (.slice none 0 0))):=hid9 fun W h1 h2 _=>ofs_bad h1 (by omega) h2
 have HSt:Hid (Calls Tryz.prog 23 #[.agg #[.slice a0 s.consts.length c0,.slice a1 s.funcs.length c1],.pointer (some ⟨w.heap.size+1+1,0,none⟩)] (((w.alloc (.cells #[.slice a0 s.consts.length c0,.slice a1 s.funcs.length c1] 27)).alloc (.cells #[.slice none 0 0,.slice none 0 0,.int .i64 0,.slice none 0 0,.slice none 0 0,.slice none 0 0,.slice none 0 0] 30)).alloc (.cells #[.slice none 0 0,.slice none 0 0,.int .i64 0,.slice none 0 0,.slice none 0 0,.slice none 0 0,.slice none 0 0,.slice none 0 0] 60)) fun e w'=>e=.returned (.slice (some ⟨w.heap.size+1+1+1+1+1,0,none⟩) 7 7)∧w'=W6):=hid9 ((steps_any _ _ _ _).mono fun e w' ⟨h1,h2⟩=>by
  have z:(((w.alloc (.cells #[.slice a0 s.consts.length c0,.slice a1 s.funcs.length c1] 27)).alloc (.cells #[.slice none 0 0,.slice none 0 0,.int .i64 0,.slice none 0 0,.slice none 0 0,.slice none 0 0,.slice none 0 0] 30)).alloc (.cells #[.slice none 0 0,.slice none 0 0,.int .i64 0,.slice none 0 0,.slice none 0 0,.slice none 0 0,.slice none 0 0,.slice none 0 0] 60)).heap.size=w.heap.size+1+1+1:=by simp
  rw [z] at h1 h2
  exact ⟨h1,h2.trans hW6.symm⟩)
 have HD7:Hid (∀ D W,Inv10 s (w.heap.size+6) 7 D W→Below w.heap.size w W→_):=hid9 fun D W hI hb=>ofs_done (rb:=w.heap.size+1) rfl (by omega) (by omega) hb hI
 clear n0 n1 hW6 hs hsf
 go_enter Tryz.func14,Tryz.ntmps14
 go_wp2_with (first | (go_at_call 23;refine HSt.out.mono ?_;clear HSt;rintro e w3 ⟨rfl,rfl⟩) | fail)
 go_loopw [11] (fun iv wr=>∃ (k:Nat) (D:List Value),iv=.int .i64 k∧k≤7∧Hid (Go10P s w (.slice a0 s.consts.length c0) (.slice a1 s.funcs.length c1) k D wr)) (fun iv _=>7 - (intOf iv).toNat)
 case atStart=>exact ⟨0,_,rfl,by omega,hstart⟩
 case round =>
  obtain ⟨k,D,rfl,hk,HL⟩:=hrel
  clear hstart
  have hk8:k=0∨k=1∨k=2∨k=3∨k=4∨k=5∨k=6∨k=7:=by omega
  rcases hk8 with rfl | rfl | rfl | rfl | rfl | rfl | rfl | rfl
  ·have q:wr.cell? ⟨w.heap.size+1+1+1+1+1,0,none⟩=some (.func (.func 42) #[] #[.pointer (some ⟨w.heap.size+1+1+1,0,none⟩),.pointer (some ⟨w.heap.size+1+1+1+1,0,none⟩)]):=Lib.cell_of_heap HL.out.1.g 0
   have HC:=hid9 (HG1.out D wr HL.out)
   clear HL HG1 HG2 HG3 HG4 HG5 HG6 HG7
   go_wp2_with (first | (go_at_fn 42;refine HC.out.mono ?_;clear HC;rintro e W1 ⟨er,rfl,⟨⟨u0,m0⟩,⟨u1,m1⟩,⟨u2,m2⟩,⟨u3,m3⟩,⟨u4,m4⟩,⟨u5,m5⟩,⟨u6,m6⟩⟩,fz,HQ⟩;have f0:=fz 0;have f1:=fz 1;have f2:=fz 2;have f3:=fz 3;have f4:=fz 4;have f5:=fz 5;have f6:=fz 6;clear fz) | fail)
   ·rename_i hne
    rcases HQ.out with ⟨_,e,hb,hz⟩ | ⟨e,_⟩
    ·subst e
     exact ret_rep rfl rfl rfl rfl hz (HBad.out W1 (by simpa using hne) hb hz)
    ·subst e;simp at hne
   ·rename_i hne
    rcases HQ.out with ⟨h,_⟩ | ⟨_,D',h⟩
    ·exact absurd hne (by simpa using h)
    ·exact ⟨⟨1,D',rfl,by omega,hid9 h⟩,by simp [intOf]⟩
  ·have q:wr.cell? ⟨w.heap.size+1+1+1+1+1,1,none⟩=some (.func (.func 44) #[] #[.pointer (some ⟨w.heap.size+1+1+1,0,none⟩),.pointer (some ⟨w.heap.size+1+1+1+1,0,none⟩)]):=Lib.cell_of_heap HL.out.1.g 1
   have HC:=hid9 (HG2.out D wr HL.out)
   clear HL HG1 HG2 HG3 HG4 HG5 HG6 HG7
   go_wp2_with (first | (go_at_fn 44;refine HC.out.mono ?_;clear HC;rintro e W1 ⟨er,rfl,⟨⟨u0,m0⟩,⟨u1,m1⟩,⟨u2,m2⟩,⟨u3,m3⟩,⟨u4,m4⟩,⟨u5,m5⟩,⟨u6,m6⟩⟩,fz,HQ⟩;have f0:=fz 0;have f1:=fz 1;have f2:=fz 2;have f3:=fz 3;have f4:=fz 4;have f5:=fz 5;have f6:=fz 6;clear fz) | fail)
   ·rename_i hne
    rcases HQ.out with ⟨_,e,hb,hz⟩ | ⟨e,_⟩
    ·subst e
     exact ret_rep rfl rfl rfl rfl hz (HBad.out W1 (by simpa using hne) hb hz)
    ·subst e;simp at hne
   ·rename_i hne
    rcases HQ.out with ⟨h,_⟩ | ⟨_,D',h⟩
    ·exact absurd hne (by simpa using h)
    ·exact ⟨⟨2,D',rfl,by omega,hid9 h⟩,by simp [intOf]⟩
  ·have q:wr.cell? ⟨w.heap.size+1+1+1+1+1,2,none⟩=some (.func (.func 46) #[] #[.pointer (some ⟨w.heap.size+1+1+1,0,none⟩),.pointer (some ⟨w.heap.size+1+1+1+1,0,none⟩)]):=Lib.cell_of_heap HL.out.1.g 2
   have HC:=hid9 (HG3.out D wr HL.out)
   clear HL HG1 HG2 HG3 HG4 HG5 HG6 HG7
   go_wp2_with (first | (go_at_fn 46;refine HC.out.mono ?_;clear HC;rintro e W1 ⟨er,rfl,⟨⟨u0,m0⟩,⟨u1,m1⟩,⟨u2,m2⟩,⟨u3,m3⟩,⟨u4,m4⟩,⟨u5,m5⟩,⟨u6,m6⟩⟩,fz,HQ⟩;have f0:=fz 0;have f1:=fz 1;have f2:=fz 2;have f3:=fz 3;have f4:=fz 4;have f5:=fz 5;have f6:=fz 6;clear fz) | fail)
   ·rename_i hne
    rcases HQ.out with ⟨_,e,hb,hz⟩ | ⟨e,_⟩
    ·subst e
     exact ret_rep rfl rfl rfl rfl hz (HBad.out W1 (by simpa using hne) hb hz)
    ·subst e;simp at hne
   ·rename_i hne
    rcases HQ.out with ⟨h,_⟩ | ⟨_,D',h⟩
    ·exact absurd hne (by simpa using h)
    ·exact ⟨⟨3,D',rfl,by omega,hid9 h⟩,by simp [intOf]⟩
  ·have q:wr.cell? ⟨w.heap.size+1+1+1+1+1,3,none⟩=some (.func (.func 48) #[] #[.pointer (some ⟨w.heap.size+1+1+1,0,none⟩),.pointer (some ⟨w.heap.size+1+1+1+1,0,none⟩)]):=Lib.cell_of_heap HL.out.1.g 3
   have HC:=hid9 (HG4.out D wr HL.out)
   clear HL HG1 HG2 HG3 HG4 HG5 HG6 HG7
   go_wp2_with (first | (go_at_fn 48;refine HC.out.mono ?_;clear HC;rintro e W1 ⟨er,rfl,⟨⟨u0,m0⟩,⟨u1,m1⟩,⟨u2,m2⟩,⟨u3,m3⟩,⟨u4,m4⟩,⟨u5,m5⟩,⟨u6,m6⟩⟩,fz,HQ⟩;have f0:=fz 0;have f1:=fz 1;have f2:=fz 2;have f3:=fz 3;have f4:=fz 4;have f5:=fz 5;have f6:=fz 6;clear fz) | fail)
   ·rename_i hne
    rcases HQ.out with ⟨_,e,hb,hz⟩ | ⟨e,_⟩
    ·subst e
     exact ret_rep rfl rfl rfl rfl hz (HBad.out W1 (by simpa using hne) hb hz)
    ·subst e;simp at hne
   ·rename_i hne
    rcases HQ.out with ⟨h,_⟩ | ⟨_,D',h⟩
    ·exact absurd hne (by simpa using h)
    ·exact ⟨⟨4,D',rfl,by omega,hid9 h⟩,by simp [intOf]⟩
  ·have q:wr.cell? ⟨w.heap.size+1+1+1+1+1,4,none⟩=some (.func (.func 50) #[] #[.pointer (some ⟨w.heap.size+1+1+1,0,none⟩),.pointer (some ⟨w.heap.size+1+1+1+1,0,none⟩)]):=Lib.cell_of_heap HL.out.1.g 4
   have HC:=hid9 (HG5.out D wr HL.out)
   clear HL HG1 HG2 HG3 HG4 HG5 HG6 HG7
   go_wp2_with (first | (go_at_fn 50;refine HC.out.mono ?_;clear HC;rintro e W1 ⟨er,rfl,⟨⟨u0,m0⟩,⟨u1,m1⟩,⟨u2,m2⟩,⟨u3,m3⟩,⟨u4,m4⟩,⟨u5,m5⟩,⟨u6,m6⟩⟩,fz,HQ⟩;have f0:=fz 0;have f1:=fz 1;have f2:=fz 2;have f3:=fz 3;have f4:=fz 4;have f5:=fz 5;have f6:=fz 6;clear fz) | fail)
   ·rename_i hne
    rcases HQ.out with ⟨_,e,hb,hz⟩ | ⟨e,_⟩
    ·subst e
     exact ret_rep rfl rfl rfl rfl hz (HBad.out W1 (by simpa using hne) hb hz)
    ·subst e;simp at hne
   ·rename_i hne
    rcases HQ.out with ⟨h,_⟩ | ⟨_,D',h⟩
    ·exact absurd hne (by simpa using h)
    ·exact ⟨⟨5,D',rfl,by omega,hid9 h⟩,by simp [intOf]⟩
  ·have q:wr.cell? ⟨w.heap.size+1+1+1+1+1,5,none⟩=some (.func (.func 52) #[] #[.pointer (some ⟨w.heap.size+1+1+1,0,none⟩),.pointer (some ⟨w.heap.size+1+1+1+1,0,none⟩)]):=Lib.cell_of_heap HL.out.1.g 5
   have HC:=hid9 (HG6.out D wr HL.out)
   clear HL HG1 HG2 HG3 HG4 HG5 HG6 HG7
   go_wp2_with (first | (go_at_fn 52;refine HC.out.mono ?_;clear HC;rintro e W1 ⟨er,rfl,⟨⟨u0,m0⟩,⟨u1,m1⟩,⟨u2,m2⟩,⟨u3,m3⟩,⟨u4,m4⟩,⟨u5,m5⟩,⟨u6,m6⟩⟩,fz,HQ⟩;have f0:=fz 0;have f1:=fz 1;have f2:=fz 2;have f3:=fz 3;have f4:=fz 4;have f5:=fz 5;have f6:=fz 6;clear fz) | fail)
   ·rename_i hne
    rcases HQ.out with ⟨_,e,hb,hz⟩ | ⟨e,_⟩
    ·subst e
     exact ret_rep rfl rfl rfl rfl hz (HBad.out W1 (by simpa using hne) hb hz)
    ·subst e;simp at hne
   ·rename_i hne
    rcases HQ.out with ⟨h,_⟩ | ⟨_,D',h⟩
    ·exact absurd hne (by simpa using h)
    ·exact ⟨⟨6,D',rfl,by omega,hid9 h⟩,by simp [intOf]⟩
  ·have q:wr.cell? ⟨w.heap.size+1+1+1+1+1,6,none⟩=some (.func (.func 54) #[] #[.pointer (some ⟨w.heap.size+1+1+1+1,0,none⟩)]):=Lib.cell_of_heap HL.out.1.g 6
   have HC:=hid9 (HG7.out D wr HL.out)
   clear HL HG1 HG2 HG3 HG4 HG5 HG6 HG7
   go_wp2_with (first | (go_at_fn 54;refine HC.out.mono ?_;clear HC;rintro e W1 ⟨er,rfl,⟨⟨u0,m0⟩,⟨u1,m1⟩,⟨u2,m2⟩,⟨u3,m3⟩,⟨u4,m4⟩,⟨u5,m5⟩,⟨u6,m6⟩⟩,fz,HQ⟩;have f0:=fz 0;have f1:=fz 1;have f2:=fz 2;have f3:=fz 3;have f4:=fz 4;have f5:=fz 5;have f6:=fz 6;clear fz) | fail)
   ·rename_i hne
    rcases HQ.out with ⟨_,e,hb,hz⟩ | ⟨e,_⟩
    ·subst e
     exact ret_rep rfl rfl rfl rfl hz (HBad.out W1 (by simpa using hne) hb hz)
    ·subst e;simp at hne
   ·rename_i hne
    rcases HQ.out with ⟨h,_⟩ | ⟨_,D',h⟩
    ·exact absurd hne (by simpa using h)
    ·exact ⟨⟨7,D',rfl,by omega,hid9 h⟩,by simp [intOf]⟩
  ·obtain ⟨x0,y0,x1,y1,sa,sc,da,dc,oa,oc,g,eD,HO⟩:=HD7.out D wr HL.out.2.2.1 HL.out.1.low
   have HO:=hid9 HO
   have hz:=hid9 HL.out.2.1
   have t0:=HL.out.1.at (i:=0) (by rw [eD];rfl)
   have t1:=HL.out.1.at (i:=1) (by rw [eD];rfl)
   have t2:=HL.out.1.at (i:=2) (by rw [eD];rfl)
   have t3:=HL.out.1.at (i:=3) (by rw [eD];rfl)
   have t4:=HL.out.1.at (i:=4) (by rw [eD];rfl)
   have t5:=HL.out.1.at (i:=5) (by rw [eD];rfl)
   have t6:=HL.out.1.at (i:=6) (by rw [eD];rfl)
   obtain ⟨⟨u0,m0⟩,⟨u1,m1⟩,⟨u2,m2⟩,⟨u3,m3⟩,⟨u4,m4⟩,⟨u5,m5⟩,⟨u6,m6⟩⟩:May7 wr (w.heap.size+1):=⟨⟨_,Lib.cell_of_heap hz.out 0⟩,⟨_,Lib.cell_of_heap hz.out 1⟩,⟨_,Lib.cell_of_heap hz.out 2⟩,⟨_,Lib.cell_of_heap hz.out 3⟩,⟨_,Lib.cell_of_heap hz.out 4⟩,⟨_,Lib.cell_of_heap hz.out 5⟩,⟨_,Lib.cell_of_heap hz.out 6⟩⟩
   have f0:=Lib.frozen_of_heap hz.out 0
   have f1:=Lib.frozen_of_heap hz.out 1
   have f2:=Lib.frozen_of_heap hz.out 2
   have f3:=Lib.frozen_of_heap hz.out 3
   have f4:=Lib.frozen_of_heap hz.out 4
   have f5:=Lib.frozen_of_heap hz.out 5
   have f6:=Lib.frozen_of_heap hz.out 6
   clear HL eD HG1 HG2 HG3 HG4 HG5 HG6 HG7 HD7 HBad
   generalize (totS s).2=tv at *
   generalize hfl:s.funcs.length=fl at *
   generalize hcl:s.consts.length=cl at *
   go_wp2_with fail
   exact ret_rep rfl rfl rfl rfl hz.out HO.out
theorem gets_fits (bs:List UInt8):(getS bs).fits:=by
 unfold getS
 split
 ·exact gScr_fits _
 ·exact ⟨by decide,by decide,fun f h=>by simp at h,fun x h=>by simp at h⟩
theorem RowN.lower {B B':Nat}{W:World}{a:Option Addr}{ns:List Int}(h:RowN B' W a ns)(hb:B≤B'):RowN B W a ns:=⟨h.1,fun g hg=>Nat.le_trans hb (h.2 g hg)⟩
theorem RepIs.low7 {s:Scr}{B B' b:Nat}{W:World}{v0 v1:Value}{sa da oa:Option Addr}{g:Nat}{d:Nat→Nat}{o:List Nat}(h:RepIs s B' W v0 v1 sa da oa g d o)(hb:B≤B')(hbb:b<B')(x0 x1 x2 x3 x4 x5 x6:Value):RepIs s B (set7 W b x0 x1 x2 x3 x4 x5 x6) v0 v1 sa da oa g d o:=by
 obtain ⟨base,hB,hO⟩:=h.own
 exact ⟨h.right,h.all,h.tot,h.ord,⟨base,by omega,own_set7 hO (by omega)⟩,(h.st.set7 hbb).lower hb,(h.dp.set7 hbb).lower hb,h.dpi,(h.od.set7 hbb).lower hb,(h.rm.set7 hbb).lower hb⟩
def chE (bs:List UInt8):Int:=if getE4 bs=0 then ofE (getS bs) else getE4 bs
def RepEnd (er:Int)(s:Scr)(w:World)(e:Ending)(w':World):Prop:=Below w.heap.size w w'∧((er≠0∧e=.returned (.tuple #[.agg zero7,.int .i64 er])) ∨
 (er=0∧∃ v0 v1 sa sc da dc oa oc g d o,e=.returned (.tuple #[.agg #[v0,v1,.int .i64 (totS s).2,.slice sa s.funcs.length sc,.slice da s.funcs.length dc,.slice oa s.funcs.length oc,.slice (some ⟨g,0,none⟩) s.funcs.length s.funcs.length],.int .i64 0])∧RepIs s w.heap.size w' v0 v1 sa da oa g d o))
set_option maxRecDepth 100000 in
set_option maxHeartbeats 4000000 in
theorem check_any (a:Option Addr)(m c:Nat)(bs:List UInt8)(hm:bs.length=m)(w:World)(hB:Bs w a bs)(hm':m≤140737488355328):Calls Tryz.prog 6 #[.slice a m c] w (RepEnd (chE bs) (getS bs) w):=by
 obtain ⟨w0,hw0⟩:∃ w0,w0=w.alloc (.cells #[.slice none 0 0,.slice none 0 0,.int .i64 0,.slice none 0 0,.slice none 0 0,.slice none 0 0,.slice none 0 0] 30):=⟨_,rfl⟩
 have b0:Below w.heap.size w w0:=by rw [hw0];exact (Below.refl _ w).alloc (Nat.le_refl _) _
 have z0:w0.heap[w.heap.size]?=some (.cells zero7 30 (0,0)):=by rw [hw0];exact heap_alloc_new w _
 have s0:w0.heap.size=w.heap.size+1:=by rw [hw0];simp
 have HG:Hid (Calls Tryz.prog 20 #[.slice a m c] (w.alloc (.cells #[.slice none 0 0,.slice none 0 0,.int .i64 0,.slice none 0 0,.slice none 0 0,.slice none 0 0,.slice none 0 0] 30)) fun e W1=>∃ x0 y0 x1 y1 n0 n1,e=.returned (.tuple #[.agg #[.slice x0 n0 y0,.slice x1 n1 y1],.int .i64 (getE4 bs)])∧May7 (W1.alloc (.cells #[.slice x0 n0 y0,.slice x1 n1 y1] 27)) w.heap.size∧(∀ i,(W1.alloc (.cells #[.slice x0 n0 y0,.slice x1 n1 y1] 27)).frozen? ⟨w.heap.size,i,none⟩=false)∧Hid (Below w.heap.size w (W1.alloc (.cells #[.slice x0 n0 y0,.slice x1 n1 y1] 27))∧(W1.alloc (.cells #[.slice x0 n0 y0,.slice x1 n1 y1] 27)).heap[w.heap.size]?=some (.cells zero7 30 (0,0))) ∧
   Hid (Calls Tryz.prog 14 #[.agg #[.slice x0 n0 y0,.slice x1 n1 y1]] (W1.alloc (.cells #[.slice x0 n0 y0,.slice x1 n1 y1] 27)) fun e W2=>∃ b0 k0 l0 b1 k1 l1 gv b3 k3 l3 b4 k4 l4 b5 k5 l5 b6 k6 l6 er,e=.returned (.tuple #[.agg #[.slice b0 k0 l0,.slice b1 k1 l1,.int .i64 gv,.slice b3 k3 l3,.slice b4 k4 l4,.slice b5 k5 l5,.slice b6 k6 l6],.int .i64 er])∧May7 W2 w.heap.size∧(∀ i,W2.frozen? ⟨w.heap.size,i,none⟩=false)∧Hid (W2.heap[w.heap.size]?=some (.cells zero7 30 (0,0))∧(getE4 bs=0→RepEnd (chE bs) (getS bs) w (.returned (.tuple #[.agg #[.slice b0 k0 l0,.slice b1 k1 l1,.int .i64 gv,.slice b3 k3 l3,.slice b4 k4 l4,.slice b5 k5 l5,.slice b6 k6 l6],.int .i64 er])) (set7 W2 w.heap.size (.slice b0 k0 l0) (.slice b1 k1 l1) (.int .i64 gv) (.slice b3 k3 l3) (.slice b4 k4 l4) (.slice b5 k5 l5) (.slice b6 k6 l6)))))):=hid9 (by
  rw [← hw0]
  refine (get4_any a m c bs hm w0 (hB.keep (below_keep b0)) hm').mono fun e W1 ⟨⟨u0,u1,e1,hS⟩,hb1⟩=>?_
  obtain ⟨⟨x0,y0,q0,n0⟩,⟨x1,y1,q1,n1⟩⟩:=hS
  subst q0;subst q1
  have hS:ScIs W1.cell? (getS bs) (.slice x0 (getS bs).consts.length y0) (.slice x1 (getS bs).funcs.length y1):=⟨⟨x0,y0,rfl,n0⟩,⟨x1,y1,rfl,n1⟩⟩
  obtain ⟨W3,hW3⟩:∃ W3,W3=W1.alloc (.cells #[.slice x0 (getS bs).consts.length y0,.slice x1 (getS bs).funcs.length y1] 27):=⟨_,rfl⟩
  have b3:Below W1.heap.size W1 W3:=by rw [hW3];exact (Below.refl _ _).alloc (Nat.le_refl _) _
  have k3:Below w0.heap.size w0 W3:=hb1.trans (b3.mono hb1.size)
  have z3:W3.heap[w.heap.size]?=some (.cells zero7 30 (0,0)):=(k3.block _ (by omega)).trans z0
  have kw:Below w.heap.size w W3:=b0.trans (k3.mono b0.size)
  refine ⟨x0,y0,x1,y1,_,_,e1,?_⟩
  rw [← hW3]
  refine ⟨⟨⟨_,Lib.cell_of_heap z3 0⟩,⟨_,Lib.cell_of_heap z3 1⟩,⟨_,Lib.cell_of_heap z3 2⟩,⟨_,Lib.cell_of_heap z3 3⟩,⟨_,Lib.cell_of_heap z3 4⟩,⟨_,Lib.cell_of_heap z3 5⟩,⟨_,Lib.cell_of_heap z3 6⟩⟩,fun i=>Lib.frozen_of_heap z3 i,hid9 ⟨kw,z3⟩,hid9 ((of_any (getS bs) _ _ W3 (hS.keep (below_keep b3)) (gets_fits bs)).mono fun e W2 ⟨h1,h2⟩=>?_)⟩
  have z2:W2.heap[w.heap.size]?=some (.cells zero7 30 (0,0)):=(h1.block _ (heap_lt z3)).trans z3
  have k2:Below w.heap.size w W2:=kw.trans (h1.mono kw.size)
  have sz:=heap_lt z3
  have may:May7 W2 w.heap.size:=⟨⟨_,Lib.cell_of_heap z2 0⟩,⟨_,Lib.cell_of_heap z2 1⟩,⟨_,Lib.cell_of_heap z2 2⟩,⟨_,Lib.cell_of_heap z2 3⟩,⟨_,Lib.cell_of_heap z2 4⟩,⟨_,Lib.cell_of_heap z2 5⟩,⟨_,Lib.cell_of_heap z2 6⟩⟩
  rcases h2 with ⟨h3,h4⟩ | ⟨h3,v0,v1,sa,sc,da,dc,oa,oc,g,d,o,h4,hR⟩
  ·exact ⟨none,0,0,none,0,0,0,none,0,0,none,0,0,none,0,0,none,0,0,_,h4,may,fun i=>Lib.frozen_of_heap z2 i,hid9 ⟨z2,fun h0=>⟨below_set7 k2 (Nat.le_refl _),.inl ⟨by rw [chE,if_pos h0];exact h3,by rw [chE,if_pos h0];rfl⟩⟩⟩⟩
  ·obtain ⟨base,hbs,hO⟩:=hR.own
   obtain ⟨⟨p0,r0,q0,_⟩,⟨p1,r1,q1,_⟩⟩:=own_is hO
   subst q0;subst q1
   exact ⟨p0,_,r0,p1,_,r1,_,sa,_,sc,da,_,dc,oa,_,oc,some ⟨g,0,none⟩,_,_,_,h4,may,fun i=>Lib.frozen_of_heap z2 i,hid9 ⟨z2,fun h0=>⟨below_set7 k2 (Nat.le_refl _),.inr ⟨by rw [chE,if_pos h0];exact h3,_,_,sa,sc,da,dc,oa,oc,g,d,o,rfl,hR.low7 (by omega) (by omega) _ _ _ _ _ _ _⟩⟩⟩⟩)
 have HB0:Hid (∀ W,getE4 bs≠0→Below w.heap.size w W→RepEnd (chE bs) (getS bs) w (.returned (.tuple #[.agg #[.slice none 0 0,.slice none 0 0,.int .i64 0,.slice none 0 0,.slice none 0 0,.slice none 0 0,.slice none 0 0],.int .i64 (getE4 bs)])) (set7 W w.heap.size (.slice none 0 0) (.slice none 0 0) (.int .i64 0) (.slice none 0 0) (.slice none 0 0) (.slice none 0 0) (.slice none 0 0))):=hid9 fun W h hb=>⟨below_set7 hb (Nat.le_refl _),.inl ⟨by rw [chE,if_neg h];exact h,by rw [chE,if_neg h];rfl⟩⟩
 clear hw0 b0 z0 s0 hB hm hm'
 generalize getE4 bs=ge at *
 by_cases hge:ge=0
 ·subst hge
  clear HB0
  go_enter Tryz.func6,Tryz.ntmps6
  go_wp2_with (first
   | (go_at_call 20;refine HG.out.mono ?_;clear HG;rintro e w3 ⟨x0,y0,x1,y1,n0,n1,rfl,_,_,_,HO⟩)
   | (go_at_call 14;refine HO.out.mono ?_;clear HO;rintro e W2 ⟨b0,k0,l0,b1,k1,l1,gv,b3,k3,l3,b4,k4,l4,b5,k5,l5,b6,k6,l6,er,rfl,⟨⟨u0,m0⟩,⟨u1,m1⟩,⟨u2,m2⟩,⟨u3,m3⟩,⟨u4,m4⟩,⟨u5,m5⟩,⟨u6,m6⟩⟩,fz,HQ⟩;have f0:=fz 0;have f1:=fz 1;have f2:=fz 2;have f3:=fz 3;have f4:=fz 4;have f5:=fz 5;have f6:=fz 6;clear fz)
   | fail)
  exact ret_rep rfl rfl rfl rfl HQ.out.1 (HQ.out.2 (by trivial))
 ·have hne:(ge != 0)=true:=by simpa using hge
  go_enter Tryz.func6,Tryz.ntmps6
  go_wp2_with (first
   | (go_at_call 20;refine HG.out.mono ?_;clear HG;rintro e w3 ⟨x0,y0,x1,y1,n0,n1,rfl,⟨⟨u0,m0⟩,⟨u1,m1⟩,⟨u2,m2⟩,⟨u3,m3⟩,⟨u4,m4⟩,⟨u5,m5⟩,⟨u6,m6⟩⟩,fz,HZ,_⟩;have f0:=fz 0;have f1:=fz 1;have f2:=fz 2;have f3:=fz 3;have f4:=fz 4;have f5:=fz 5;have f6:=fz 6;clear fz)
   | fail)
  exact ret_rep rfl rfl rfl rfl HZ.out.2 (HB0.out _ hge HZ.out.1)
def kb10:List UInt8:=[0,1,0,0,0,0,0]
def kS10:Scr:=⟨[],[⟨[],[],[],[]⟩]⟩
theorem k_get:getE4 kb10=0∧getS kb10=kS10:=by
 have h:getOk kb10=true:=by decide
 obtain ⟨h1,h2⟩:=get_yes h
 exact ⟨h1,by rw [h2];rfl⟩
theorem k_right:kS10.right=true:=by decide
theorem k_all:allS kS10=(0,[0]):=by decide
theorem k_ord:ordS kS10.funcs.length (gF kS10)=some [0]:=by decide
theorem k_tot:totS kS10=(0,0):=by decide
theorem k_che:chE kb10=0:=by
 rw [chE,if_pos k_get.1,k_get.2,ofE,if_pos k_right,k_all,if_pos rfl,k_ord,k_tot]
 rfl
theorem k_deep {d:Nat→Nat}(h:DeepIs kS10.funcs.length (gF kS10) d):deepL kS10 d=[1]:=by
 have h0:=h 0 (by decide)
 have e:gF kS10 0=[]:=by decide
 rw [e] at h0
 have h1:d 0=1:=h0
 show (List.range 1).map (fun x=>((d x:Nat):Int))=[1]
 simp [List.range,List.range.loop,h1]
set_option maxRecDepth 100000 in
set_option maxHeartbeats 1000000 in
theorem allRight_none (w:World):Calls Tryz.prog 62 #[.slice none 0 0] w fun e w'=>e=.returned (.bool true)∧w'=w:=by
 go_enter Tryz.func62,Tryz.ntmps62
 go_wp2_with fail
 go_loopw [7] (fun iv wr=>iv=.int .i64 0∧w=wr) (fun _ _=>0)
 case atStart=>exact ⟨rfl,rfl⟩
 case round =>
  obtain ⟨rfl,rfl⟩:=hrel
  go_wp2_with fail
  go_ret
  exact ⟨rfl,rfl⟩
set_option maxRecDepth 100000 in
set_option maxHeartbeats 1000000 in
theorem vfits_none (a:Option Addr)(c:Nat)(w:World):Calls Tryz.prog 31 #[.slice none 0 0,.slice a 0 c] w fun e w'=>e=.returned (.bool true)∧w'=w:=by
 go_enter Tryz.func31,Tryz.ntmps31
 go_wp2_with fail
 go_loopw [14] (fun iv wr=>iv=.int .i64 0∧w=wr) (fun _ _=>0)
 case atStart=>exact ⟨rfl,rfl⟩
 case round =>
  obtain ⟨rfl,rfl⟩:=hrel
  go_wp2_with (first | (go_at_call 62;refine (allRight_none _).mono ?_;rintro e w1 ⟨rfl,rfl⟩) | fail)
  go_ret
  exact ⟨rfl,rfl⟩
set_option maxRecDepth 100000 in
set_option maxHeartbeats 1000000 in
theorem fits10_k (V0 V1 : Value) (w : World) (hs : ScIs w.cell? kS10 V0 V1) : Calls Tryz.prog 16 #[.agg #[V0, V1], .slice none 0 0] w fun e w' => e = .returned (.bool true) ∧ Below w.heap.size w w' := by
  obtain ⟨⟨a0, c0, rfl, n0⟩, ⟨a1, c1, rfl, n1⟩⟩ := hs
  have hs : ScIs w.cell? kS10 (.slice a0 kS10.consts.length c0) (.slice a1 kS10.funcs.length c1) := ⟨⟨a0, c0, rfl, n0⟩, ⟨a1, c1, rfl, n1⟩⟩
  have b1 := (Below.refl _ w).alloc (Nat.le_refl _) (.cells #[.slice a0 kS10.consts.length c0, .slice a1 kS10.funcs.length c1] 27)
  have e0 := heap_alloc_new w (.cells #[.slice a0 kS10.consts.length c0, .slice a1 kS10.funcs.length c1] 27)
  have HR : Hid (Calls Tryz.prog 30 #[.agg #[.slice a0 kS10.consts.length c0, .slice a1 kS10.funcs.length c1]] (w.alloc (.cells #[.slice a0 kS10.consts.length c0, .slice a1 kS10.funcs.length c1] 27)) fun e W1 => e = .returned (.bool true) ∧ W1.cell? ⟨w.heap.size, 1, none⟩ = some (.slice a1 kS10.funcs.length c1) ∧ (∃ fb fo pa pc, a1 = some ⟨fb, fo, none⟩ ∧ W1.cell? ⟨fb, fo, none⟩ = some (.slice pa 0 pc)) ∧ Hid (Below w.heap.size w W1)) := hid9 ((right4_any kS10 _ _ _ (hs.keep (below_keep b1)) (by exact ⟨by decide, by decide, fun f h => by simp [kS10] at h; subst h; exact ⟨by decide, by decide, by decide, by decide⟩, fun x h => by simp [kS10] at h⟩)).mono fun e W1 ⟨h1, h2⟩ => by
    have bb := b1.trans (h2.mono b1.size)
    refine ⟨by rw [h1, k_right], Lib.cell_of_heap ((h2.block _ (heap_lt e0)).trans e0) 1, ?_, hid9 bb⟩
    rcases n1.keep (below_keep bb) with h | ⟨fb, fo, e, h⟩
    · cases h
    · obtain ⟨v0, v1, v2, v3, q0, _, _, _, ⟨pa, pc, q4, _⟩, _⟩ := h 0 (by decide)
      rw [q4] at q0
      exact ⟨fb, fo, pa, pc, e, by have e2 : kS10.funcs[0].p.length = 0 := rfl
                                   rw [e2] at q0; simpa using q0⟩)
  clear hs n0 n1 b1 e0
  go_enter Tryz.func16, Tryz.ntmps16
  go_wp2_with (first
    | (go_at_call 30; refine HR.out.mono ?_; clear HR; rintro e W1 ⟨rfl, x1, ⟨fb, fo, pa, pc, rfl, p0⟩, HB⟩)
    | (go_at_call 31; refine (vfits_none _ _ _).mono ?_; rintro e W2 ⟨rfl, rfl⟩)
    | fail)
  all_goals first | (go_ret; exact ⟨rfl, HB.out⟩) | (exfalso; rename_i h; exact absurd h (by decide))
theorem num10_any (x:Int)(w:World):Calls Tryz.prog 9 #[.int .i64 x] w fun e w'=>e=.returned (.int .i64 x)∧w'=w:=by
 go_enter Tryz.func9,Tryz.ntmps9
 go_wp2
 go_ret
 exact ⟨rfl,rfl⟩
theorem ns_one (W:World)(x:Int)(B:Nat)(hB:W.heap.size=B):NsAt (W.alloc (.cells #[.int .i64 x] 3)).cell? (some ⟨B,0,none⟩) [x]:=.inr ⟨B,0,rfl,fun j hj=>by
 obtain rfl:j=0:=by simp at hj;omega
 subst hB
 exact Lib.cell_of_heap (heap_alloc_new W _) 0⟩
set_option maxRecDepth 100000 in
set_option maxHeartbeats 2000000 in
theorem knows10_any (w:World):Calls Tryz.prog 11 #[] w fun e w'=>e=.returned (.bool true)∧Below w.heap.size w w':=by
 obtain ⟨w0,hw0⟩:∃ w0,w0=w.alloc (.cells #[.int .u8 0,.int .u8 1,.int .u8 0,.int .u8 0,.int .u8 0,.int .u8 0,.int .u8 0] 5):=⟨_,rfl⟩
 have b0:Below w.heap.size w w0:=by rw [hw0];exact (Below.refl _ w).alloc (Nat.le_refl _) _
 have hB:Bs w0 (some ⟨w.heap.size,0,none⟩) kb10:=by
  have hh:w0.heap[w.heap.size]?=some (.cells #[.int .u8 0,.int .u8 1,.int .u8 0,.int .u8 0,.int .u8 0,.int .u8 0,.int .u8 0] 5 (0,0)):=by rw [hw0];exact heap_alloc_new w _
  refine .inr ⟨w.heap.size,0,rfl,fun j hj=>?_⟩
  have hj2:j=0∨j=1∨j=2∨j=3∨j=4∨j=5∨j=6:=by simp [kb10] at hj;omega
  rcases hj2 with rfl | rfl | rfl | rfl | rfl | rfl | rfl <;> exact Lib.cell_of_heap hh _
 have HC:Hid (Calls Tryz.prog 6 #[.slice (some ⟨w.heap.size,0,none⟩) 7 7] (w.alloc (.cells #[.int .u8 0,.int .u8 1,.int .u8 0,.int .u8 0,.int .u8 0,.int .u8 0,.int .u8 0] 5)) fun e W1=>∃ b0 l0 b1 l1 b3 l3 b4 l4 b5 l5 b6 l6,e=.returned (.tuple #[.agg #[.slice b0 0 l0,.slice b1 1 l1,.int .i64 0,.slice b3 1 l3,.slice b4 1 l4,.slice b5 1 l5,.slice b6 1 l6],.int .i64 0]) ∧
   Hid (Calls Tryz.prog 22 #[.slice b3 1 l3,.slice (some ⟨W1.heap.size+1,0,none⟩) 1 1] ((W1.alloc (.cells #[.slice b0 0 l0,.slice b1 1 l1,.int .i64 0,.slice b3 1 l3,.slice b4 1 l4,.slice b5 1 l5,.slice b6 1 l6] 30)).alloc (.cells #[.int .i64 0] 3)) fun e W2=>e=.returned (.bool true)∧W2.cell? ⟨W1.heap.size,4,none⟩=some (.slice b4 1 l4) ∧
    Hid (Calls Tryz.prog 22 #[.slice b4 1 l4,.slice (some ⟨W2.heap.size,0,none⟩) 1 1] (W2.alloc (.cells #[.int .i64 1] 3)) fun e W3=>e=.returned (.bool true)∧(W3.cell? ⟨W1.heap.size,0,none⟩=some (.slice b0 0 l0)∧W3.cell? ⟨W1.heap.size,1,none⟩=some (.slice b1 1 l1)) ∧
     Hid (Calls Tryz.prog 16 #[.agg #[.slice b0 0 l0,.slice b1 1 l1],.slice none 0 0] W3 fun e W4=>e=.returned (.bool true)∧Hid (Below w.heap.size w W4))))):=hid9 (by
  rw [← hw0]
  refine (check_any (some ⟨w.heap.size,0,none⟩) 7 7 kb10 rfl w0 hB (by omega)).mono fun e W1 ⟨h1,h2⟩=>?_
  rw [k_che,k_get.2] at h2
  rcases h2 with ⟨h2,_⟩ | ⟨_,v0,v1,sa,sc,da,dc,oa,oc,g,d,o,e1,hR⟩
  ·exact absurd rfl h2
  obtain ⟨base,hbs,hO⟩:=hR.own
  obtain ⟨⟨p0,r0,q0,_⟩,⟨p1,r1,q1,_⟩⟩:=own_is hO
  subst q0;subst q1
  rw [k_tot] at e1
  have kw:Below w.heap.size w W1:=b0.trans (h1.mono b0.size)
  refine ⟨p0,r0,p1,r1,sa,sc,da,dc,oa,oc,some ⟨g,0,none⟩,_,e1,hid9 ?_⟩
  obtain ⟨W2,hW2⟩:∃ W2,W2=W1.alloc (.cells #[.slice p0 0 r0,.slice p1 1 r1,.int .i64 0,.slice sa 1 sc,.slice da 1 dc,.slice oa 1 oc,.slice (some ⟨g,0,none⟩) 1 1] 30):=⟨_,rfl⟩
  have e2:W2.heap[W1.heap.size]?=some (.cells #[.slice p0 0 r0,.slice p1 1 r1,.int .i64 0,.slice sa 1 sc,.slice da 1 dc,.slice oa 1 oc,.slice (some ⟨g,0,none⟩) 1 1] 30 (0,0)):=by rw [hW2];exact heap_alloc_new W1 _
  have b2:Below W1.heap.size W1 W2:=by rw [hW2];exact (Below.refl _ _).alloc (Nat.le_refl _) _
  have s2:W2.heap.size=W1.heap.size+1:=by rw [hW2];simp
  show Calls Tryz.prog 22 _ ((W1.alloc (.cells #[.slice p0 0 r0,.slice p1 1 r1,.int .i64 0,.slice sa 1 sc,.slice da 1 dc,.slice oa 1 oc,.slice (some ⟨g,0,none⟩) 1 1] 30)).alloc (.cells #[.int .i64 0] 3)) _
  rw [← hW2]
  have b3:Below W2.heap.size W2 (W2.alloc (.cells #[.int .i64 0] 3)):=(Below.refl _ _).alloc (Nat.le_refl _) _
  have n3:NsAt (W2.alloc (.cells #[.int .i64 0] 3)).cell? sa [0]:=by
   have:=(hR.st.keep (b2.trans (b3.mono b2.size))).1
   rw [k_all] at this
   exact this
  refine (lints_any sa (some ⟨W1.heap.size+1,0,none⟩) sc 1 1 1 [0] [0] rfl rfl _ n3 (ns_one W2 0 _ s2) (by omega) (by omega)).mono fun e W3 ⟨h3,k3,h4⟩=>?_
  have b4:Below W2.heap.size W2 W3:=by rw [h4];exact below_draws2 b3 k3
  have e3:=(b4.block _ (heap_lt e2)).trans e2
  refine ⟨by rw [h3];simp,Lib.cell_of_heap e3 4,hid9 ?_⟩
  have b5:Below W3.heap.size W3 (W3.alloc (.cells #[.int .i64 1] 3)):=(Below.refl _ _).alloc (Nat.le_refl _) _
  have k5:Below W1.heap.size W1 (W3.alloc (.cells #[.int .i64 1] 3)):=(b2.trans (b4.mono b2.size)).trans (b5.mono (by have:=b4.size;have:=b2.size;omega))
  have n5:NsAt (W3.alloc (.cells #[.int .i64 1] 3)).cell? da [1]:=by
   have:=(hR.dp.keep k5).1
   rw [k_deep hR.dpi] at this
   exact this
  refine (lints_any da (some ⟨W3.heap.size,0,none⟩) dc 1 1 1 [1] [1] rfl rfl _ n5 (ns_one W3 1 _ rfl) (by omega) (by omega)).mono fun e W4 ⟨h5,k6,h6⟩=>?_
  have b6:Below W3.heap.size W3 W4:=by rw [h6];exact below_draws2 b5 k6
  have e4:=(b6.block _ (heap_lt e3)).trans e3
  have k7:Below W1.heap.size W1 W4:=(b2.trans (b4.mono b2.size)).trans (b6.mono (by have:=b4.size;have:=b2.size;omega))
  refine ⟨by rw [h5];simp,⟨Lib.cell_of_heap e4 0,Lib.cell_of_heap e4 1⟩,hid9 ((fits10_k _ _ W4 (own_is (own_below hO k7))).mono fun e W5 ⟨h7,h8⟩=>⟨h7,hid9 ?_⟩)⟩
  have kk:=kw.trans (k7.mono kw.size)
  exact kk.trans (h8.mono kk.size))
 clear hw0 b0 hB
 go_enter Tryz.func11,Tryz.ntmps11
 go_wp2_with (first
  | (go_at_call 6;refine HC.out.mono ?_;clear HC;rintro e W1 ⟨b0,l0,b1,l1,b3,l3,b4,l4,b5,l5,b6,l6,rfl,H1⟩)
  | (go_at_call 9;refine (num10_any _ _).mono ?_;rintro e W2 ⟨rfl,w2e⟩;rw [w2e];clear w2e)
  | (go_at_call 22;first | (refine H1.out.mono ?_;clear H1;rintro e W2 ⟨rfl,x4,H2⟩) | (refine H2.out.mono ?_;clear H2;rintro e W3 ⟨rfl,⟨x0,x1⟩,H3⟩))
  | (go_at_call 16;refine H3.out.mono ?_;clear H3;rintro e W4 ⟨rfl,HB⟩)
  | fail)
 all_goals first | (go_ret;exact ⟨rfl,HB.out⟩)
end Go.Proofs.YtpmlnkjamhelnaaGreat
