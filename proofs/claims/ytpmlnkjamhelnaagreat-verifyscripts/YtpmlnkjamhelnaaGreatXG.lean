/- Layer 8: walk. -/
import Derived.Test.YtpmlnkjamhelnaaGreatXE
namespace Go.Proofs.YtpmlnkjamhelnaaGreat
open Go.RowKit Go.Maps
def WalkEnd8 (G:List (List Nat))(bs:List Nat)(n:Nat)(w:World)(e:Ending)(w':World):Prop :=
 ∃ mb m r,e=.returned (.tuple #[.map (some mb),.bool r])∧Wlk (gOf G) bs m r∧MapN w' mb n (2*n) m∧w.heap.size≤mb∧Below w.heap.size w w'
theorem results_cells8 {fn:Func}{t u:Tmp}{ty uy:TypeId}(h:fn.results=#[.cell t ty,.cell u uy])(tmps:Array Value)(P:Program)(w:World)(a b:Addr)(v x:Value)(ha:tmps[t]?.getD undef=.pointer (some a))(hb:tmps[u]?.getD undef=.pointer (some b))(hl:(loadVar ty a).run P w=.ok v w)(hm:(loadVar uy b).run P w=.ok x w) :
  (results fn tmps).run P w=.ok (.tuple #[v,x]) w:=by
 simp [results,h,ha,hb,asAddr,hl,hm]
theorem load_map8 {w:World}{b:Nat}{v:Value}(h:w.cell? ⟨b,0,none⟩=some v):(loadVar 119 ⟨b,0,none⟩).run Tryz.prog w=.ok v w:=by
 simp [loadVar,go_sem,h]
theorem load_bool8 {w:World}{b:Nat}{v:Value}(h:w.cell? ⟨b,0,none⟩=some v):(loadVar 4 ⟨b,0,none⟩).run Tryz.prog w=.ok v w:=by
 simp [loadVar,go_sem,h]
def wbx (w:World)(ga:Option Addr)(n gc:Nat):WBox:=⟨w.heap.size,w.heap.size+1,w.heap.size+1+1,w.heap.size,w.heap.size+1+1+1+1,w.heap.size+1+1+1,gc,n,ga⟩
theorem wbx_ok (w:World)(ga:Option Addr)(n gc:Nat)(hn:n≤100):(wbx w ga n gc).ok:=by
 constructor <;> simp only [wbx] <;> omega
def w5 (w:World)(ga:Option Addr)(n gc:Nat):World:=((((w.alloc (.cells #[.slice ga n gc] 58)).alloc (.cells #[.map (some (w.heap.size+1+1+1))] 119)).alloc (.cells #[.bool false] 4)).alloc (.map #[] 0)).alloc (.cells #[.func (.func 155) #[] #[.pointer (some ⟨w.heap.size+1,0,none⟩),.pointer (some ⟨w.heap.size+1+1,0,none⟩),.pointer (some ⟨w.heap.size,0,none⟩),.pointer (some ⟨w.heap.size+1+1+1+1,0,none⟩)]] 113)
theorem RsAt.low {w w':World}{ga:Option Addr}{R:List (List Int)}(h:RsAt w.cell? ga R)(hb:Below w.heap.size w w'):RsAt (lowC w.heap.size w') ga R:=h.keep fun x _ hx=>lowC_mk (World.block_lt_of_cell? w x hx) ((hb.cell (World.block_lt_of_cell? w x hx)).trans hx)
theorem w5_st (w:World)(ga:Option Addr)(n gc:Nat)(hn:n≤100)(G:List (List Nat))(hg:RsAt w.cell? ga (rowsI G)):FromSt (wbx w ga n gc) G (2*n) (fun _=>none) false (w5 w ga n gc)∧Below w.heap.size w (w5 w ga n gc):=by
 obtain ⟨w1,e1⟩:∃ w1,w1=w.alloc (.cells #[.slice ga n gc] 58):=⟨_,rfl⟩
 obtain ⟨w2,e2⟩:∃ w2,w2=w1.alloc (.cells #[.map (some (w.heap.size+1+1+1))] 119):=⟨_,rfl⟩
 obtain ⟨w3,e3⟩:∃ w3,w3=w2.alloc (.cells #[.bool false] 4):=⟨_,rfl⟩
 obtain ⟨w4,e4⟩:∃ w4,w4=w3.alloc (.map #[] 0):=⟨_,rfl⟩
 obtain ⟨fv,ef⟩:∃ fv:Value,fv=.func (.func 155) #[] (wbx w ga n gc).fr:=⟨_,rfl⟩
 obtain ⟨W,e5⟩:∃ W,W=w4.alloc (.cells #[fv] 113):=⟨_,rfl⟩
 have eW:w5 w ga n gc=W:=by rw [e5,ef,e4,e3,e2,e1];rfl
 rw [eW]
 have z1:w1.heap.size=w.heap.size+1:=by rw [e1];simp
 have z2:w2.heap.size=w.heap.size+1+1:=by rw [e2];simp [z1]
 have z3:w3.heap.size=w.heap.size+1+1+1:=by rw [e3];simp [z2]
 have z4:w4.heap.size=w.heap.size+1+1+1+1:=by rw [e4];simp [z3]
 have b1:Below w.heap.size w w1:=by rw [e1];exact (Below.refl _ w).alloc (Nat.le_refl _) _
 have b2:Below w1.heap.size w1 w2:=by rw [e2];exact (Below.refl _ w1).alloc (Nat.le_refl _) _
 have b3:Below w2.heap.size w2 w3:=by rw [e3];exact (Below.refl _ w2).alloc (Nat.le_refl _) _
 have b4:Below w3.heap.size w3 w4:=by rw [e4];exact (Below.refl _ w3).alloc (Nat.le_refl _) _
 have b5:Below w4.heap.size w4 W:=by rw [e5];exact (Below.refl _ w4).alloc (Nat.le_refl _) _
 have c1:w1.heap[w.heap.size]?=some (.cells #[.slice ga n gc] 58 (0,0)):=by rw [e1];exact heap_alloc_new w _
 have c2:w2.heap[w.heap.size+1]?=some (.cells #[.map (some (w.heap.size+1+1+1))] 119 (0,0)):=by rw [e2,← z1];exact heap_alloc_new w1 _
 have c3:w3.heap[w.heap.size+1+1]?=some (.cells #[.bool false] 4 (0,0)):=by rw [e3,← z2];exact heap_alloc_new w2 _
 have c5:W.heap[w.heap.size+1+1+1+1]?=some (.cells #[fv] 113 (0,0)):=by rw [e5,← z4];exact heap_alloc_new w4 _
 have M:MapN w4 (w.heap.size+1+1+1) n (2*n) (fun _=>none):=by rw [e4,← z3];exact MapN.new w3 n hn
 have k2:Below w1.heap.size w1 W:=b2.trans ((b3.mono (by omega)).trans ((b4.mono (by omega)).trans (b5.mono (by omega))))
 have k3:Below w2.heap.size w2 W:=b3.trans ((b4.mono (by omega)).trans (b5.mono (by omega)))
 have k4:Below w3.heap.size w3 W:=b4.trans (b5.mono (by omega))
 have kk:Below w.heap.size w W:=b1.trans (k2.mono (by omega))
 refine ⟨⟨?_,?_,?_,?_,hg.low kk,?_⟩,kk⟩
 ·show W.heap[w.heap.size+1]?=_
  exact (k3.block _ (by omega)).trans c2
 ·show W.heap[w.heap.size+1+1]?=_
  exact (k4.block _ (by omega)).trans c3
 ·show W.cell? ⟨w.heap.size,0,none⟩=_
  rw [Lib.cell_of_heap ((k2.block _ (by omega)).trans c1)];rfl
 ·show W.cell? ⟨w.heap.size+1+1+1+1,0,none⟩=_
  rw [Lib.cell_of_heap c5,ef];rfl
 ·exact M.keep (b5.block _ (by show w.heap.size+1+1+1<w4.heap.size;omega))
set_option maxRecDepth 100000 in
set_option maxHeartbeats 1000000 in
theorem walk8_any (G:List (List Nat))(n gc:Nat)(ga:Option Addr)(hG:G.length=n)(hn:n≤100)(hI:Inn n (gOf G))(hr:∀ l ∈ G,l.length≤1000)(bs:List Nat)(ba:Option Addr)(bn bc:Nat)(hbn:bs.length=bn)(hb1:bn≤1000)(hbs:∀ f ∈ bs,f<n)(w:World)
  (hg:RsAt w.cell? ga (rowsI G)) (hb:NsAt w.cell? ba (rowI bs)) :
  Calls Tryz.prog 114 #[.slice ga n gc,.slice ba bn bc] w (WalkEnd8 G bs n w):=by
 have hmk:∀ W:World,(Instr.makeMap 119 none).run Tryz.prog W=.ok (.map (some W.heap.size)) (W.alloc (.map #[] 0)):=fun W=>by kernel_rfl
 have hsf:∀ (W:World) (a:Addr) (q:Go.Fn) (x y:Array Value),(store a (.func q x y)).run Tryz.prog W=stored Tryz.prog W a (.func q x y) _:=fun W a q x y=>run_store Tryz.prog W a _ _ rfl
 obtain ⟨S5,B5⟩:=w5_st w ga n gc hn G hg
 have HS5:=hid7 S5
 have HB5:=hid7 B5
 have HBs:Hid (NsAt (lowC w.heap.size (w5 w ga n gc)) ba (rowI bs)):=hid7 (hb.keep fun x v hx=>lowC_mk (World.block_lt_of_cell? w x hx) ((B5.cell (World.block_lt_of_cell? w x hx)).trans hx))
 have HG:=hid7 (And.intro hG (And.intro hI (And.intro hr (And.intro hbs hbn))))
 have eF:∀ args w,(callFunc 155 args).run Tryz.prog w=.ok (.enter 155 args) w:=enters_of Tryz.func155 (by kernel_rfl) rfl
 obtain ⟨W5,hW5⟩:∃ W5,W5=w5 w ga n gc:=⟨_,rfl⟩
 rw [← hW5] at HS5 HB5 HBs
 unfold w5 at hW5
 clear S5 B5 hg hb hG hI hr hbs hbn
 go_enter Tryz.func114,Tryz.ntmps114
 go_wp2_with fail
 rw [← hW5]
 clear hW5 hmk hsf
 go_loopw [13] (fun v13 wr=>∃ k:Nat,v13=.int .i64 k∧k≤bn∧Hid (∃ m r,Wlk (gOf G) (bs.take k) m r∧FromSt (wbx w ga n gc) G (2*n) m r wr∧Kp2 (w.heap.size+1+1+1) (w.heap.size+1+1) W5 wr)) (fun v13 _=>bn - (intOf v13).toNat)
 case atStart=>exact ⟨0,rfl,Nat.zero_le _,hid7 ⟨_,_,wlk_start,HS5.out,Kp2.refl _ _ _⟩⟩
 case round =>
  obtain ⟨k,rfl,hk,HLp⟩:=hrel
  obtain ⟨m1,r1,V1,F1,P1⟩:=HLp.out
  clear HS5 HLp
  by_cases hlt:k<bn
  ·obtain ⟨hG,hI,hr,hbs,hbn⟩:=HG.out
   have hkl:k<bs.length:=by omega
   have hc:=List.getElem_mem hkl
   obtain ⟨bj,oj,eaj,hbj,hcell⟩:=row_cell (HBs.out.keep (lowC_keep P1 (by omega) (by omega))) hkl
   have hcf:wr.cell? ⟨w.heap.size+1+1+1+1,0,none⟩=some (.func (.func 155) #[] #[.pointer (some ⟨w.heap.size+1,0,none⟩),.pointer (some ⟨w.heap.size+1+1,0,none⟩),.pointer (some ⟨w.heap.size,0,none⟩),.pointer (some ⟨w.heap.size+1+1+1+1,0,none⟩)]):=F1.cf
   have hC:=from_any (wbx w ga n gc) (wbx_ok w ga n gc hn) G hG hI hr _ (2*n) m1 r1 _ wr (Nat.le_refl _) F1 (wlk_led V1 _) (hbs _ hc)
   have HC:Hid (Calls Tryz.prog 155 (#[.int .i64 (bs[k]:Nat)]++#[.pointer (some ⟨w.heap.size+1,0,none⟩),.pointer (some ⟨w.heap.size+1+1,0,none⟩),.pointer (some ⟨w.heap.size,0,none⟩),.pointer (some ⟨w.heap.size+1+1+1+1,0,none⟩)]) wr fun e w'=>∃ d:Nat,e=.returned (.int .i64 d)∧Hid (∃ m r,Wlk (gOf G) (bs.take (k+1)) m r∧FromSt (wbx w ga n gc) G (2*n) m r w'∧Kp2 (w.heap.size+1+1+1) (w.heap.size+1+1) W5 w')):=hid7 (by
    refine hC.mono fun e w' ⟨m2,r2,d,h1,h2,h3,h4⟩=>⟨d,h1,hid7 ⟨m2,r2,?_,h3,P1.trans h4⟩⟩
    rw [List.take_succ_eq_append_getElem hkl]
    exact wlk_step V1 h2)
   generalize bs[k]=c at *
   subst eaj
   clear hC F1 V1 P1 HBs hc hkl HB5 HG hG hI hr hbs hbn hbj
   go_wp2_with (first | (go_at_fn 155;refine HC.out.mono ?_;clear HC;rintro e w4 ⟨d4,rfl,L4⟩) | fail)
   exact ⟨⟨k+1,by go_num,by omega,L4⟩,by simp [intOf];omega⟩
  ·obtain rfl:k=bn:=by omega
   obtain ⟨hG,hI,hr,hbs,hbn⟩:=HG.out
   rw [← hbn,List.take_length] at V1
   have hcm:wr.cell? ⟨w.heap.size+1,0,none⟩=some (.map (some (w.heap.size+1+1+1))):=F1.cm
   have hcr:wr.cell? ⟨w.heap.size+1+1,0,none⟩=some (.bool r1):=Lib.cell_of_heap F1.cr 0
   have hfm:wr.frozen? ⟨w.heap.size+1,0,none⟩=false:=Lib.frozen_of_heap F1.hm 0
   have hfr:wr.frozen? ⟨w.heap.size+1+1,0,none⟩=false:=Lib.frozen_of_heap F1.cr 0
   obtain ⟨w8,hw8⟩:∃ w8,w8=(wr.setCell ⟨w.heap.size+1,0,none⟩ (.map (some (w.heap.size+1+1+1)))).setCell ⟨w.heap.size+1+1,0,none⟩ (.bool r1):=⟨_,rfl⟩
   have q1:(wr.setCell ⟨w.heap.size+1,0,none⟩ (.map (some (w.heap.size+1+1+1)))).heap[w.heap.size+1+1]?=some (.cells #[.bool r1] 4 (0,0)):=(Below.heap_setCell _ _ _ _ (by show w.heap.size+1+1≠w.heap.size+1;omega)).trans F1.cr
   have q2:w8.cell? ⟨w.heap.size+1+1,0,none⟩=some (.bool r1):=by rw [hw8];exact Lib.cell_of_heap (box_set q1) 0
   have q3:w8.cell? ⟨w.heap.size+1,0,none⟩=some (.map (some (w.heap.size+1+1+1))):=by
    rw [hw8]
    exact Lib.cell_of_heap ((Below.heap_setCell _ _ _ _ (by show w.heap.size+1≠w.heap.size+1+1;omega)).trans (box_set F1.hm)) 0
   have q4:Below w.heap.size wr w8:=by
    rw [hw8]
    exact ((Below.refl _ wr).setCell (p:=⟨w.heap.size+1,0,none⟩) (by show w.heap.size≤w.heap.size+1;omega) _).setCell (p:=⟨w.heap.size+1+1,0,none⟩) (by show w.heap.size≤w.heap.size+1+1;omega) _
   have q5:w8.heap[w.heap.size+1+1+1]?=wr.heap[w.heap.size+1+1+1]?:=by
    rw [hw8]
    exact (Below.heap_setCell _ _ _ _ (by show w.heap.size+1+1+1≠w.heap.size+1+1;omega)).trans (Below.heap_setCell _ _ _ _ (by show w.heap.size+1+1+1≠w.heap.size+1;omega))
   have HE:Hid (WalkEnd8 G bs n w (.returned (.tuple #[.map (some (w.heap.size+1+1+1)),.bool r1])) w8.drew):=hid7 ⟨_,m1,r1,rfl,V1,F1.map.keep (w':=w8.drew) q5,by omega,((HB5.out.trans (P1.low (by omega) (by omega) HB5.out.size)).trans q4).drew⟩
   have Hq:=hid7 (And.intro q2 q3)
   have Hw8:=hid7 hw8
   clear F1 V1 P1 HBs HB5 HG hG hI hr hbs hbn q1 q2 q3 q4 q5 hw8
   go_wp2_with fail
   go_region
   all_goals
    go_wp2
    rw [← Hw8.out]
    refine ⟨rfl,_,results_cells8 rfl _ _ _ ⟨w.heap.size+1,0,none⟩ ⟨w.heap.size+1+1,0,none⟩ _ _ rfl rfl (load_map8 Hq.out.2) (load_bool8 Hq.out.1),HE.out⟩
end Go.Proofs.YtpmlnkjamhelnaaGreat
