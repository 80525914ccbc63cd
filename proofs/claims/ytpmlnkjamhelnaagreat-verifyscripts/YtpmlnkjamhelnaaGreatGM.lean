/- What package code reads: many things, one behind the other. What package code reads: an instruction, a list of types. What package code reads: a function. -/
import Derived.Test.YtpmlnkjamhelnaaGreatRF
import Derived.Test.YtpmlnkjamhelnaaGreatAN
import Derived.Test.YtpmlnkjamhelnaaGreatXE
import Derived.Test.YtpmlnkjamhelnaaGreatTS
import Derived.Laws.BitsAllLaws
namespace Go.Proofs.YtpmlnkjamhelnaaGreat
open Go.RowKit
theorem row_chg4 {w w':World}{base n size:Nat}{e:TypeId}{v:Value}{xs:List Value}{S:Nat→Prop}(h:w.ownsRow base e size v n xs)(k:Chg w w' S)(hv:∀ g,v.ownBlock=some g→¬ S g):w'.ownsRow base e size v n xs:=by
 refine ⟨h.1,?_⟩
 rcases h.2 with h2 | ⟨g,cap,cur,rfl,hg,hh,r⟩
 ·exact .inl h2
 ·exact .inr ⟨g,cap,cur,rfl,hg,by rw [k.block g (lt_of_block hh) (hv g rfl)];exact hh,r⟩
theorem row_lt4 {w:World}{base n size:Nat}{e:TypeId}{v:Value}{xs:List Value}(h:w.ownsRow base e size v n xs):∀ k,v.ownBlock=some k→base≤k∧k<w.heap.size:=World.ownsRow.lt h
theorem row_lower4 {w:World}{base base' n size:Nat}{e:TypeId}{v:Value}{xs:List Value}(h:w.ownsRow base e size v n xs)(hb:base'≤base):w.ownsRow base' e size v n xs:=by
 refine ⟨h.1,?_⟩
 rcases h.2 with h2 | ⟨g,cap,cur,rfl,hg,r⟩
 ·exact .inl h2
 ·exact .inr ⟨g,cap,cur,rfl,Nat.le_trans hb hg,r⟩
theorem rds_lt4 {w:World}{p h g:Nat}{bs:List UInt8}{err:Int}(H:RdS w p h g bs err):p<w.heap.size∧h<w.heap.size:=by
 obtain ⟨⟨ao,cap,hE,_⟩,_⟩:=H
 exact ⟨lt_of_block hE.hp,lt_of_block hE.hh⟩
abbrev rdV (p:Nat):Value:=.agg #[.pointer (some ⟨p,0,none⟩)]
def ManyEnd (e:TypeId)(size n:Nat)(xs:List Value)(p h g:Nat)(st:RSt)(w:World)(x:Ending)(w':World):Prop:=(∃ v,x=.returned v∧w'.ownsRow w.heap.size e size v n xs)∧RdS w' p h g st.1 st.2∧Chg w w' (fun k=>k=h)
def OneEnd (r:Value)(p h g:Nat)(st:RSt)(w:World)(x:Ending)(w':World):Prop:=x=.returned r∧RdS w' p h g st.1 st.2∧Chg w w' (fun k=>k=h)
theorem many_step {w wr w2 w6:World}{p h g n base size:Nat}{e:TypeId}{v v':Value}{st:RSt}{xs:List Value}{o:Obj}(hb:base=w.heap.size)(hp:p<w.heap.size)(hh:h<w.heap.size)(hg:g<w.heap.size)(C0:Chg w wr (fun i=>i=h))(hrow:wr.ownsRow base e size v n xs)(c1:Chg wr w2 (fun i=>i=h))(F:RdS w2 p h g st.1 st.2)(hs:Step (w2.alloc o) v w6 v') :
  RdS w6 p h g st.1 st.2∧Chg w w6 (fun i=>i=h):=by
 subst hb
 have hlt:=row_lt4 hrow
 have c2:Chg w w2 (fun i=>i=h):=C0.trans c1 fun _ _ e=>e
 have c3:Chg w (w2.alloc o) (fun i=>i=h):=c2.trans (Chg.alloc w2 o (fun i=>i=h)) fun _ _ e=>e
 refine ⟨(F.chg (Chg.alloc w2 o (fun _=>False)) id id id).chg (Chg.of_grown hs.1) (fun e=>?_) (fun e=>?_) (fun e=>?_),c3.trans (Chg.of_grown hs.1) fun i hi e=>?_⟩
 all_goals (have:=(hlt _ e).1;omega)
theorem many_row {w wr w2:World}{h n base size:Nat}{e:TypeId}{v:Value}{xs:List Value}(hb:base=w.heap.size)(hh:h<w.heap.size)(hrow:wr.ownsRow base e size v n xs)(c1:Chg wr w2 (fun i=>i=h))(o:Obj):(w2.alloc o).ownsRow base e size v n xs:=by
 subst hb
 have hlt:=row_lt4 hrow
 exact row_chg4 (row_chg4 hrow c1 fun b hb e=>by have:=(hlt b hb).1;omega) (Chg.alloc w2 o (fun _=>False)) (fun _ _=>id)
theorem many_box {w wr:World}{p h:Nat}(hh:h<w.heap.size)(C:Chg (w.alloc (.cells #[.pointer (some ⟨p,0,none⟩)] 80)) wr (fun i=>i=h)):wr.cell? ⟨w.heap.size,0,none⟩=some (.pointer (some ⟨p,0,none⟩)):=by
 have e:=(C.block w.heap.size (by simp) (by omega)).trans (heap_alloc_new w (.cells #[.pointer (some ⟨p,0,none⟩)] 80))
 rw [Lib.cell_of_heap e];rfl
theorem gMany_round {α:Type}{one:RSt→α × RSt}{n k:Nat}{st st':RSt}{L:List α}(hk:k<n)(h0:st'.2=0)(h:gMany one n st=(L++(gMany one (n - k) st').1,(gMany one (n - k) st').2)):gMany one n st=((L++[(one st').1])++(gMany one (n - (k+1)) (one st').2).1,(gMany one (n - (k+1)) (one st').2).2):=by
 rw [h,show n - k=(n - (k+1))+1 by omega]
 conv=>lhs;unfold gMany
 rw [if_neg (by simp [h0])]
 simp
theorem gMany_end {α:Type}{one:RSt→α × RSt}{n k:Nat}{st st':RSt}{L:List α}(hk:k=n∨st'.2≠0)(h:gMany one n st=(L++(gMany one (n - k) st').1,(gMany one (n - k) st').2)):gMany one n st=(L,st'):=by
 rw [h]
 rcases hk with rfl | hk
 ·rw [Nat.sub_self];simp [gMany]
 ·rw [gMany_err _ _ hk];simp
theorem cells_new4 (W:World)(xs:List Value)(t:TypeId)(B:Nat)(hB:W.heap.size=B):∀ j u,xs[j]?=some u→(W.alloc (.cells xs.toArray t)).cell? ((⟨B,0,none⟩:Addr).add j)=some u:=by
 subst hB
 intro j u hu
 rw [Addr.add_lit,Lib.cell_of_heap (heap_alloc_new W (.cells xs.toArray t))]
 simpa using hu
theorem manyN_snoc (L:List (Int))(x:Int):cellsN (L++[x])=cellsN L++[Value.int .i64 x]:=by simp [cellsN]
set_option maxRecDepth 100000 in
set_option maxHeartbeats 1000000 in
theorem manyN (p h g:Nat)(one:RSt→(Int) × RSt)(w:World)(n:Nat)(st:RSt)(H:RdS w p h g st.1 st.2)(hg:g<w.heap.size)(hn:n≤65535)
  (hone:∀ W s,RdS W p h g s.1 s.2→w.heap.size≤W.heap.size→Calls Tryz.prog 66 #[.pointer (some ⟨p,0,none⟩)] W (OneEnd (.int .i64 (one s).1) p h g (one s).2 W)) :
  Calls Tryz.prog 143 #[rdV p,.int .i64 n,.func (.func 66) #[.pointer (some ⟨p,0,none⟩)] #[]] w (ManyEnd 3 1 (gMany one n st).1.length (cellsN (gMany one n st).1) p h g (gMany one n st).2 w):=by
 obtain ⟨hp,hh⟩:=rds_lt4 H
 have H1:=H.chg (Chg.alloc w (.cells #[.pointer (some ⟨p,0,none⟩)] 80) (fun _=>False)) id id id
 have hC0:=Chg.alloc w (.cells #[.pointer (some ⟨p,0,none⟩)] 80) (fun k=>k=h)
 obtain ⟨W1,hW1⟩:∃ W1,W1=w.alloc (.cells #[.pointer (some ⟨p,0,none⟩)] 80):=⟨_,rfl⟩
 have hbox:∀ W,Chg W1 W (fun k=>k=h)→W.cell? ⟨w.heap.size,0,none⟩=some (.pointer (some ⟨p,0,none⟩)):=fun W hW=>by rw [hW1] at hW;exact many_box hh hW
 rw [← hW1] at H1 hC0
 obtain ⟨i0,hi,hz0,hz1,hz2⟩:=info_parts (show (Tryz.prog.info? 3).map (fun i=>(i.zero,i.size,i.bytes))=some (some (.int .i64 0),1,8) by kernel_rfl)
 have fin:∀ wr v L st',gMany one n st=(L,st')→wr.ownsRow W1.heap.size 3 1 v L.length (cellsN L)→RdS wr p h g st'.1 st'.2→Chg W1 wr (fun k=>k=h)→ManyEnd 3 1 (gMany one n st).1.length (cellsN (gMany one n st).1) p h g (gMany one n st).2 w (.returned v) wr:=fun wr v L st' e hr HR hc=>by
  rw [e]
  exact ⟨⟨v,rfl,row_lower4 hr hC0.size⟩,HR,hC0.trans hc fun _ _ e=>e⟩
 go_enter Tryz.func143,Tryz.ntmps143
 go_wp2_with fail
 rw [← hW1]
 clear hW1
 go_loopw [7,9] (fun v i wr=>∃ (k:Nat) (L:List (Int)) (s:RSt),k≤n∧i=.int .i64 k∧L.length=k∧Hid (gMany one n st=(L++(gMany one (n - k) s).1,(gMany one (n - k) s).2))∧wr.ownsRow W1.heap.size 3 1 v k (cellsN L)∧RdS wr p h g s.1 s.2∧Chg W1 wr (fun k=>k=h)) (fun _ i _=>n - (intOf i).toNat)
 case atStart=>exact ⟨0,[],st,Nat.zero_le _,rfl,rfl,hid (by simp),World.ownsRow_nil _ _ _ _,H1,Chg.refl _ _⟩
 case round =>
  obtain ⟨k,L,s,hk,rfl,hL,HM,hrow,HR,C1⟩:=hrel
  have cb:=hbox wr C1
  have hEr:=rerr_any p h g s.1 s.2 wr HR
  by_cases hlt:k<n
  ·by_cases herr:s.2=0
   ·have HM':=hid (gMany_round hlt herr HM.out)
    have hO:=hone wr s HR (Nat.le_trans hC0.size C1.size)
    rw [herr] at hEr
    have HV:=hid (manyN_snoc L (one s).1)
    obtain ⟨x,hx⟩:∃ x,x=(one s).1:=⟨_,rfl⟩
    obtain ⟨s',hs'⟩:∃ s',s'=(one s).2:=⟨_,rfl⟩
    rw [← hx] at hO HV HM'
    rw [← hs'] at hO HM'
    have hhW:=Nat.lt_of_lt_of_le hh hC0.size
    have hsW:=C1.size
    clear HM hone hx hs' hbox
    generalize cellsN L=xs at hrow HV
    go_wp2_with (first | (go_at_call 70;refine hEr.mono ?_;rintro e w' ⟨rfl,rfl⟩;clear hEr) | (go_at_call 66;refine hO.mono ?_;clear hO;rintro e w2 ⟨rfl,H2,hc2⟩;have hs2:=hc2.size) | (at_builtin;refine wpList_appN _ rfl _ _ 28 rfl elemN_int W1.heap.size _ k xs rfl (many_row rfl hhW hrow hc2 _) _ rfl 1 [Value.int .i64 x] (.inr ⟨⟨w2.heap.size,0,none⟩,1,rfl,cells_new4 w2 [Value.int .i64 x] 3 _ rfl⟩) rfl (by simp [Value.oneCell']) (by unfold maxLen;omega) (by omega) (by simp;omega) ?_;intro v' w6 hr6 hs6))
    obtain ⟨F6,C6⟩:=many_step rfl (Nat.lt_of_lt_of_le hp hC0.size) hhW (Nat.lt_of_lt_of_le hg hC0.size) C1 hrow hc2 H2 hs6
    exact ⟨⟨k+1,L++[x],s',by omega,by go_num,by simp [hL],HM',by rw [HV.out];exact hr6,F6,C6⟩,by simp [intOf];omega⟩
   ·have hne:(s.2 != 0)=true:=by simp [herr]
    have hE:=gMany_end (.inr herr) HM.out
    have hF:=fin wr _ L s hE (by rw [hL];exact hrow) HR C1
    clear HM fin hE
    generalize s.2=er at hEr hne
    go_wp2_with (go_at_call 70;refine hEr.mono ?_;rintro e w' ⟨rfl,rfl⟩;clear hEr)
    go_ret
    exact hF
  ·obtain rfl:k=n:=by omega
   have hE:=gMany_end (.inl rfl) HM.out
   have hF:=fin wr _ L s hE (by rw [hL];exact hrow) HR C1
   clear HM fin hE
   go_wp2_with fail
   go_ret
   exact hF
theorem manyS_snoc (L:List (List UInt8))(x:List UInt8):cellsS (L++[x])=cellsS L++[Value.string ⟨x.toArray⟩]:=by simp [cellsS]
set_option maxRecDepth 100000 in
set_option maxHeartbeats 1000000 in
theorem manyS (p h g:Nat)(one:RSt→(List UInt8) × RSt)(w:World)(n:Nat)(st:RSt)(H:RdS w p h g st.1 st.2)(hg:g<w.heap.size)(hn:n≤65535)
  (hone:∀ W s,RdS W p h g s.1 s.2→w.heap.size≤W.heap.size→Calls Tryz.prog 67 #[.pointer (some ⟨p,0,none⟩)] W (OneEnd (.string ⟨(one s).1.toArray⟩) p h g (one s).2 W)) :
  Calls Tryz.prog 65 #[rdV p,.int .i64 n,.func (.func 67) #[.pointer (some ⟨p,0,none⟩)] #[]] w (ManyEnd 9 1 (gMany one n st).1.length (cellsS (gMany one n st).1) p h g (gMany one n st).2 w):=by
 obtain ⟨hp,hh⟩:=rds_lt4 H
 have H1:=H.chg (Chg.alloc w (.cells #[.pointer (some ⟨p,0,none⟩)] 80) (fun _=>False)) id id id
 have hC0:=Chg.alloc w (.cells #[.pointer (some ⟨p,0,none⟩)] 80) (fun k=>k=h)
 obtain ⟨W1,hW1⟩:∃ W1,W1=w.alloc (.cells #[.pointer (some ⟨p,0,none⟩)] 80):=⟨_,rfl⟩
 have hbox:∀ W,Chg W1 W (fun k=>k=h)→W.cell? ⟨w.heap.size,0,none⟩=some (.pointer (some ⟨p,0,none⟩)):=fun W hW=>by rw [hW1] at hW;exact many_box hh hW
 rw [← hW1] at H1 hC0
 obtain ⟨i0,hi,hz0,hz1,hz2⟩:=info_parts (show (Tryz.prog.info? 9).map (fun i=>(i.zero,i.size,i.bytes))=some (some (.string ⟨#[]⟩),1,16) by kernel_rfl)
 have fin:∀ wr v L st',gMany one n st=(L,st')→wr.ownsRow W1.heap.size 9 1 v L.length (cellsS L)→RdS wr p h g st'.1 st'.2→Chg W1 wr (fun k=>k=h)→ManyEnd 9 1 (gMany one n st).1.length (cellsS (gMany one n st).1) p h g (gMany one n st).2 w (.returned v) wr:=fun wr v L st' e hr HR hc=>by
  rw [e]
  exact ⟨⟨v,rfl,row_lower4 hr hC0.size⟩,HR,hC0.trans hc fun _ _ e=>e⟩
 go_enter Tryz.func65,Tryz.ntmps65
 go_wp2_with fail
 rw [← hW1]
 clear hW1
 go_loopw [7,9] (fun v i wr=>∃ (k:Nat) (L:List (List UInt8)) (s:RSt),k≤n∧i=.int .i64 k∧L.length=k∧Hid (gMany one n st=(L++(gMany one (n - k) s).1,(gMany one (n - k) s).2))∧wr.ownsRow W1.heap.size 9 1 v k (cellsS L)∧RdS wr p h g s.1 s.2∧Chg W1 wr (fun k=>k=h)) (fun _ i _=>n - (intOf i).toNat)
 case atStart=>exact ⟨0,[],st,Nat.zero_le _,rfl,rfl,hid (by simp),World.ownsRow_nil _ _ _ _,H1,Chg.refl _ _⟩
 case round =>
  obtain ⟨k,L,s,hk,rfl,hL,HM,hrow,HR,C1⟩:=hrel
  have cb:=hbox wr C1
  have hEr:=rerr_any p h g s.1 s.2 wr HR
  by_cases hlt:k<n
  ·by_cases herr:s.2=0
   ·have HM':=hid (gMany_round hlt herr HM.out)
    have hO:=hone wr s HR (Nat.le_trans hC0.size C1.size)
    rw [herr] at hEr
    have HV:=hid (manyS_snoc L (one s).1)
    obtain ⟨x,hx⟩:∃ x,x=(one s).1:=⟨_,rfl⟩
    obtain ⟨s',hs'⟩:∃ s',s'=(one s).2:=⟨_,rfl⟩
    rw [← hx] at hO HV HM'
    rw [← hs'] at hO HM'
    have hhW:=Nat.lt_of_lt_of_le hh hC0.size
    have hsW:=C1.size
    clear HM hone hx hs' hbox
    generalize cellsS L=xs at hrow HV
    go_wp2_with (first | (go_at_call 70;refine hEr.mono ?_;rintro e w' ⟨rfl,rfl⟩;clear hEr) | (go_at_call 67;refine hO.mono ?_;clear hO;rintro e w2 ⟨rfl,H2,hc2⟩;have hs2:=hc2.size) | (at_builtin;refine wpList_appN _ rfl _ _ 24 rfl elemN_str W1.heap.size _ k xs rfl (many_row rfl hhW hrow hc2 _) _ rfl 1 [Value.string ⟨x.toArray⟩] (.inr ⟨⟨w2.heap.size,0,none⟩,1,rfl,cells_new4 w2 [Value.string ⟨x.toArray⟩] 9 _ rfl⟩) rfl (by simp [Value.oneCell']) (by unfold maxLen;omega) (by omega) (by simp;omega) ?_;intro v' w6 hr6 hs6))
    obtain ⟨F6,C6⟩:=many_step rfl (Nat.lt_of_lt_of_le hp hC0.size) hhW (Nat.lt_of_lt_of_le hg hC0.size) C1 hrow hc2 H2 hs6
    exact ⟨⟨k+1,L++[x],s',by omega,by go_num,by simp [hL],HM',by rw [HV.out];exact hr6,F6,C6⟩,by simp [intOf];omega⟩
   ·have hne:(s.2 != 0)=true:=by simp [herr]
    have hE:=gMany_end (.inr herr) HM.out
    have hF:=fin wr _ L s hE (by rw [hL];exact hrow) HR C1
    clear HM fin hE
    generalize s.2=er at hEr hne
    go_wp2_with (go_at_call 70;refine hEr.mono ?_;rintro e w' ⟨rfl,rfl⟩;clear hEr)
    go_ret
    exact hF
  ·obtain rfl:k=n:=by omega
   have hE:=gMany_end (.inl rfl) HM.out
   have hF:=fin wr _ L s hE (by rw [hL];exact hrow) HR C1
   clear HM fin hE
   go_wp2_with fail
   go_ret
   exact hF
theorem manyI_snoc (L:List (Int × Int))(x:Int × Int):cellsI (L++[x])=cellsI L++[Value.int .i64 x.1,.int .i64 x.2]:=by simp [cellsI]
set_option maxRecDepth 100000 in
set_option maxHeartbeats 1000000 in
theorem manyI (p h g:Nat)(one:RSt→(Int × Int) × RSt)(w:World)(n:Nat)(st:RSt)(H:RdS w p h g st.1 st.2)(hg:g<w.heap.size)(hn:n≤65535)
  (hone:∀ W s,RdS W p h g s.1 s.2→w.heap.size≤W.heap.size→Calls Tryz.prog 106 #[rdV p] W (OneEnd (.agg #[.int .i64 (one s).1.1,.int .i64 (one s).1.2]) p h g (one s).2 W)) :
  Calls Tryz.prog 105 #[rdV p,.int .i64 n,.func (.func 106) #[rdV p] #[]] w (ManyEnd 74 2 (gMany one n st).1.length (cellsI (gMany one n st).1) p h g (gMany one n st).2 w):=by
 obtain ⟨hp,hh⟩:=rds_lt4 H
 have H1:=H.chg (Chg.alloc w (.cells #[.pointer (some ⟨p,0,none⟩)] 80) (fun _=>False)) id id id
 have hC0:=Chg.alloc w (.cells #[.pointer (some ⟨p,0,none⟩)] 80) (fun k=>k=h)
 obtain ⟨W1,hW1⟩:∃ W1,W1=w.alloc (.cells #[.pointer (some ⟨p,0,none⟩)] 80):=⟨_,rfl⟩
 have hbox:∀ W,Chg W1 W (fun k=>k=h)→W.cell? ⟨w.heap.size,0,none⟩=some (.pointer (some ⟨p,0,none⟩)):=fun W hW=>by rw [hW1] at hW;exact many_box hh hW
 rw [← hW1] at H1 hC0
 obtain ⟨i0,hi,hz0,hz1,hz2⟩:=info_parts (show (Tryz.prog.info? 74).map (fun i=>(i.zero,i.size,i.bytes))=some (some (.agg #[.int .i64 0,.int .i64 0]),2,16) by kernel_rfl)
 have fin:∀ wr v L st',gMany one n st=(L,st')→wr.ownsRow W1.heap.size 74 2 v L.length (cellsI L)→RdS wr p h g st'.1 st'.2→Chg W1 wr (fun k=>k=h)→ManyEnd 74 2 (gMany one n st).1.length (cellsI (gMany one n st).1) p h g (gMany one n st).2 w (.returned v) wr:=fun wr v L st' e hr HR hc=>by
  rw [e]
  exact ⟨⟨v,rfl,row_lower4 hr hC0.size⟩,HR,hC0.trans hc fun _ _ e=>e⟩
 go_enter Tryz.func105,Tryz.ntmps105
 go_wp2_with fail
 rw [← hW1]
 clear hW1
 go_loopw [7,9] (fun v i wr=>∃ (k:Nat) (L:List (Int × Int)) (s:RSt),k≤n∧i=.int .i64 k∧L.length=k∧Hid (gMany one n st=(L++(gMany one (n - k) s).1,(gMany one (n - k) s).2))∧wr.ownsRow W1.heap.size 74 2 v k (cellsI L)∧RdS wr p h g s.1 s.2∧Chg W1 wr (fun k=>k=h)) (fun _ i _=>n - (intOf i).toNat)
 case atStart=>exact ⟨0,[],st,Nat.zero_le _,rfl,rfl,hid (by simp),World.ownsRow_nil _ _ _ _,H1,Chg.refl _ _⟩
 case round =>
  obtain ⟨k,L,s,hk,rfl,hL,HM,hrow,HR,C1⟩:=hrel
  have cb:=hbox wr C1
  have hEr:=rerr_any p h g s.1 s.2 wr HR
  by_cases hlt:k<n
  ·by_cases herr:s.2=0
   ·have HM':=hid (gMany_round hlt herr HM.out)
    have hO:=hone wr s HR (Nat.le_trans hC0.size C1.size)
    rw [herr] at hEr
    have HV:=hid (manyI_snoc L (one s).1)
    obtain ⟨x,hx⟩:∃ x,x=(one s).1:=⟨_,rfl⟩
    obtain ⟨s',hs'⟩:∃ s',s'=(one s).2:=⟨_,rfl⟩
    rw [← hx] at hO HV HM'
    rw [← hs'] at hO HM'
    have hhW:=Nat.lt_of_lt_of_le hh hC0.size
    have hsW:=C1.size
    clear HM hone hx hs' hbox
    generalize cellsI L=xs at hrow HV
    go_wp2_with (first | (go_at_call 70;refine hEr.mono ?_;rintro e w' ⟨rfl,rfl⟩;clear hEr) | (go_at_call 106;refine hO.mono ?_;clear hO;rintro e w2 ⟨rfl,H2,hc2⟩;have hs2:=hc2.size) | (at_builtin;refine wpList_appN _ rfl _ _ 47 rfl elemN_ins W1.heap.size _ k xs rfl (many_row rfl hhW hrow hc2 _) _ rfl 1 [Value.int .i64 x.1,.int .i64 x.2] (.inr ⟨⟨w2.heap.size,0,none⟩,1,rfl,cells_new4 w2 [Value.int .i64 x.1,.int .i64 x.2] 74 _ rfl⟩) rfl (by simp [Value.oneCell']) (by unfold maxLen;omega) (by omega) (by simp;omega) ?_;intro v' w6 hr6 hs6))
    obtain ⟨F6,C6⟩:=many_step rfl (Nat.lt_of_lt_of_le hp hC0.size) hhW (Nat.lt_of_lt_of_le hg hC0.size) C1 hrow hc2 H2 hs6
    exact ⟨⟨k+1,L++[x],s',by omega,by go_num,by simp [hL],HM',by rw [HV.out];exact hr6,F6,C6⟩,by simp [intOf];omega⟩
   ·have hne:(s.2 != 0)=true:=by simp [herr]
    have hE:=gMany_end (.inr herr) HM.out
    have hF:=fin wr _ L s hE (by rw [hL];exact hrow) HR C1
    clear HM fin hE
    generalize s.2=er at hEr hne
    go_wp2_with (go_at_call 70;refine hEr.mono ?_;rintro e w' ⟨rfl,rfl⟩;clear hEr)
    go_ret
    exact hF
  ·obtain rfl:k=n:=by omega
   have hE:=gMany_end (.inl rfl) HM.out
   have hF:=fin wr _ L s hE (by rw [hL];exact hrow) HR C1
   clear HM fin hE
   go_wp2_with fail
   go_ret
   exact hF
theorem gbyte_s (p h g:Nat)(s:RSt)(w:World)(H:RdS w p h g s.1 s.2):Calls Tryz.prog 66 #[.pointer (some ⟨p,0,none⟩)] w (OneEnd (.int .i64 (gByte s).1) p h g (gByte s).2 w):=rbyte_all p h g s.1 s.2 w H
theorem gint_s (p h g:Nat)(s:RSt)(w:World)(H:RdS w p h g s.1 s.2):Calls Tryz.prog 144 #[.pointer (some ⟨p,0,none⟩)] w (OneEnd (.int .i64 (gInt s).1) p h g (gInt s).2 w):=rint_all p h g s.1 s.2 w H
theorem gtext_s (p h g:Nat)(s:RSt)(w:World)(H:RdS w p h g s.1 s.2):Calls Tryz.prog 67 #[.pointer (some ⟨p,0,none⟩)] w (OneEnd (.string ⟨(gText s).1.toArray⟩) p h g (gText s).2 w):=rtext_all p h g s.1 s.2 w H
theorem gByte_nat (s:RSt):∃ n:Nat,n≤255∧(gByte s).1=n:=by
 unfold gByte ansByte
 simp only
 split
 ·exact ⟨0,by omega,rfl⟩
 split
 ·exact ⟨0,by omega,rfl⟩
 ·exact ⟨_,by have:=(s.1.getD 0 0).toNat_lt;omega,rfl⟩
theorem load_ins {w:World}{b:Nat}{x0 x1:Value}(h0:w.cell? ⟨b,0,none⟩=some x0)(h1:w.cell? ⟨b,1,none⟩=some x1):(loadVar 74 ⟨b,0,none⟩).run Tryz.prog w=.ok (.agg #[x0,x1]) w:=by
 simp [loadVar,go_sem,h0,h1]
theorem kept2 {w w':World}{b:Nat}{x y:Value}{t:TypeId}{S:Nat→Prop}(hb:w.heap[b]?=some (.cells #[x,y] t (0,0)))(hc:Chg w w' S)(hn:¬ S b):w'.heap[b]?=some (.cells #[x,y] t (0,0)):=(hc.block b (lt_of_block hb) hn).trans hb
theorem ins_end {w W:World}{p h g B:Nat}{s:RSt}{x y:Value}(o a:Value)(hB:w.heap.size≤B)(hp:p<w.heap.size)(hh:h<w.heap.size)(hg:g<w.heap.size)(hb:W.heap[B]?=some (.cells #[x,y] 74 (0,0)))(H:RdS W p h g s.1 s.2)(hc:Chg w W (fun k=>k=h)) :
  ((W.setCell ⟨B,0,none⟩ o).setCell ⟨B,1,none⟩ a).cell? ⟨B,0,none⟩=some o∧((W.setCell ⟨B,0,none⟩ o).setCell ⟨B,1,none⟩ a).cell? ⟨B,1,none⟩=some a∧OneEnd (.agg #[o,a]) p h g s w (.returned (.agg #[o,a])) ((W.setCell ⟨B,0,none⟩ o).setCell ⟨B,1,none⟩ a):=by
 have h1:=set2_0 (u:=o) hb
 have h2:=set2_1 (u:=a) h1
 obtain ⟨c0,c1,_,_⟩:=cells2 h2
 refine ⟨c0,c1,rfl,(H.chg (Chg.setCell W ⟨B,0,none⟩ o) ?_ ?_ ?_).chg (Chg.setCell _ ⟨B,1,none⟩ a) ?_ ?_ ?_,(hc.trans (Chg.setCell W ⟨B,0,none⟩ o) ?_).trans (Chg.setCell _ ⟨B,1,none⟩ a) ?_⟩
 all_goals first | (show ¬ _=B;omega) | (intro i hi e;have e':i=B:=e;omega)
set_option maxRecDepth 100000 in
set_option maxHeartbeats 1000000 in
theorem gins_s (p h g:Nat)(s:RSt)(w:World)(H:RdS w p h g s.1 s.2)(hg:g<w.heap.size):Calls Tryz.prog 106 #[rdV p] w (OneEnd (.agg #[.int .i64 (gIns s).1.1,.int .i64 (gIns s).1.2]) p h g (gIns s).2 w):=by
 obtain ⟨hp,hh⟩:=rds_lt4 H
 obtain ⟨W1,hW1⟩:∃ W1,W1=(w.alloc (.cells #[.pointer (some ⟨p,0,none⟩)] 80)).alloc (.cells #[.int .i64 0,.int .i64 0] 74):=⟨_,rfl⟩
 have hC1:Chg w W1 (fun k=>k=h):=by rw [hW1];exact (Chg.alloc w _ _).trans (Chg.alloc _ _ _) (fun _ _ e=>e)
 have H1:RdS W1 p h g s.1 s.2:=by rw [hW1];exact (H.chg (Chg.alloc w _ (fun _=>False)) id id id).chg (Chg.alloc _ _ (fun _=>False)) id id id
 have bA:W1.heap[w.heap.size]?=some (.cells #[.pointer (some ⟨p,0,none⟩)] 80 (0,0)):=by rw [hW1,Below.heap_alloc _ _ _ (by simp)];exact heap_alloc_new w _
 have bB:W1.heap[w.heap.size+1]?=some (.cells #[.int .i64 0,.int .i64 0] 74 (0,0)):=by
  have:=heap_alloc_new (w.alloc (.cells #[.pointer (some ⟨p,0,none⟩)] 80)) (.cells #[.int .i64 0,.int .i64 0] 74)
  rw [hW1];simpa using this
 have lB:=lt_of_block bB
 have hbox:∀ W,Chg W1 W (fun k=>k=h)→W.cell? ⟨w.heap.size,0,none⟩=some (.pointer (some ⟨p,0,none⟩)):=fun W hW=>by
  rw [Lib.cell_of_heap ((hW.block _ (by omega) (by omega)).trans bA)];rfl
 have hFirst:=gbyte_s p h g s W1 H1
 have hTk:=takes_all (gByte s).1
 have cA:=hbox W1 (Chg.refl _ _)
 by_cases t0:takesN (gByte s).1=0
 ·have hE:gIns s=(((gByte s).1,0),(gByte s).2):=by unfold gIns;rw [if_pos t0]
  rw [hE]
  rw [t0] at hTk
  generalize (gByte s).1=o at hFirst hTk
  generalize (gByte s).2=s1 at hFirst
  go_enter Tryz.func106,Tryz.ntmps106
  go_wp2_with fail
  rw [← hW1]
  clear hW1
  refine hFirst.mono ?_
  rintro e w2 ⟨rfl,H2,hc2⟩
  clear hFirst
  have b2:=kept2 bB hc2 (by omega)
  obtain ⟨m0,m1,o0,o1⟩:=cells2 b2
  have cB:=hbox w2 hc2
  have hs2:=hc2.size
  have hlw:w.heap.size+1<w2.heap.size:=by omega
  have hlw0:w.heap.size<w2.heap.size:=by omega
  have hne:¬ w.heap.size+1=w2.heap.size:=by omega
  have hne0:¬ w.heap.size=w2.heap.size:=by omega
  have hC2:Chg w w2 (fun k=>k=h):=hC1.trans hc2 fun _ _ e=>e
  go_wp2_with (first | (go_at_call 97;refine (hTk _).mono ?_;rintro e w' ⟨rfl,hw'⟩;subst hw'))
  obtain ⟨q0,q1,q2,q3,q4⟩:=ins_end (.int .i64 o) (.int .i64 0) (Nat.le_succ _) hp hh hg b2 H2 hC2
  exact bodyPost_ret (results_cell1 rfl _ _ _ _ _ rfl (load_ins (alloc_keep _ _ _ _ q0) (alloc_keep _ _ _ _ q1))) rfl ⟨rfl,q3.chg (Chg.alloc _ _ (fun _=>False)) id id id,q4.trans (Chg.alloc _ _ (fun k=>k=h)) fun _ _ e=>e⟩
 by_cases t1:takesN (gByte s).1=1
 ·have hE:gIns s=(((gByte s).1,(gInt (gByte s).2).1),(gInt (gByte s).2).2):=by unfold gIns;rw [if_neg t0,if_pos t1]
  rw [hE]
  rw [t1] at hTk
  clear hE t0 t1
  generalize (gByte s).1=o at hFirst hTk
  generalize (gByte s).2=s1 at hFirst
  have hNext:∀ w2,RdS w2 p h g s1.1 s1.2→Calls Tryz.prog 144 #[.pointer (some ⟨p,0,none⟩)] (w2.alloc (.cells #[.int .i64 o,.int .i64 0] 74)) (OneEnd (.int .i64 (gInt s1).1) p h g (gInt s1).2 (w2.alloc (.cells #[.int .i64 o,.int .i64 0] 74))):=fun w2 H2=>gint_s p h g s1 _ (H2.chg (Chg.alloc w2 _ (fun _=>False)) id id id)
  generalize (gInt s1).1=a at hNext
  generalize (gInt s1).2=s2 at hNext
  go_enter Tryz.func106,Tryz.ntmps106
  go_wp2_with fail
  rw [← hW1]
  clear hW1
  refine hFirst.mono ?_
  rintro e w2 ⟨rfl,H2,hc2⟩
  clear hFirst
  have b2:=kept2 bB hc2 (by omega)
  have cB:=hbox w2 hc2
  have hs2:=hc2.size
  have hlw:w.heap.size+1<w2.heap.size:=by omega
  have hlw0:w.heap.size<w2.heap.size:=by omega
  have hne:¬ w.heap.size+1=w2.heap.size:=by omega
  have hne0:¬ w.heap.size=w2.heap.size:=by omega
  have hC2:Chg w w2 (fun k=>k=h):=hC1.trans hc2 fun _ _ e=>e
  have hN:=hNext w2 H2
  clear hNext
  go_wp2_with (first | (go_at_call 97;refine (hTk _).mono ?_;rintro e w' ⟨rfl,hw'⟩;subst hw'))
  refine hN.mono ?_
  rintro e w3 ⟨rfl,H3,hc3⟩
  clear hN
  have b3:=kept2 (heap_alloc_new w2 (.cells #[.int .i64 o,.int .i64 0] 74)) hc3 (by omega)
  have d3:=kept2 ((Below.heap_alloc w2 (.cells #[.int .i64 o,.int .i64 0] 74) _ hlw).trans b2) hc3 (by omega)
  obtain ⟨x0,x1,y0,y1⟩:=cells2 b3
  obtain ⟨m0,m1,o0,o1⟩:=cells2 d3
  have hs3:w2.heap.size+1≤w3.heap.size:=by have:=hc3.size;simpa using this
  go_wp2_with fail
  have hC3:Chg w w3 (fun k=>k=h):=(hC2.trans (Chg.alloc w2 _ (fun k=>k=h)) fun _ _ e=>e).trans hc3 fun _ _ e=>e
  have k4:=Chg.setCell w3 ⟨w2.heap.size,1,none⟩ (.int .i64 a)
  obtain ⟨q0,q1,q2⟩:=ins_end (.int .i64 o) (.int .i64 a) (Nat.le_succ _) hp hh hg (kept2 d3 k4 hne) (H3.chg k4 (by show ¬ p=w2.heap.size;omega) (by show ¬ h=w2.heap.size;omega) (by show ¬ g=w2.heap.size;omega)) (hC3.trans k4 (fun i hi (e:i=w2.heap.size)=>by omega))
  exact bodyPost_ret (results_cell1 rfl _ _ _ _ _ rfl (load_ins q0 q1)) rfl q2
 ·have hE:gIns s=(((gByte s).1,(gByte (gByte s).2).1),(gByte (gByte s).2).2):=by unfold gIns;rw [if_neg t0,if_neg t1]
  rw [hE]
  have n0:(takesN (gByte s).1 == 0)=false:=by simp [t0]
  have n1:(takesN (gByte s).1 == 1)=false:=by simp [t1]
  clear hE t0 t1
  generalize takesN (gByte s).1=tk at hTk n0 n1
  generalize (gByte s).1=o at hFirst hTk
  generalize (gByte s).2=s1 at hFirst
  have hNext:∀ w2,RdS w2 p h g s1.1 s1.2→Calls Tryz.prog 66 #[.pointer (some ⟨p,0,none⟩)] (w2.alloc (.cells #[.int .i64 o,.int .i64 0] 74)) (OneEnd (.int .i64 (gByte s1).1) p h g (gByte s1).2 (w2.alloc (.cells #[.int .i64 o,.int .i64 0] 74))):=fun w2 H2=>gbyte_s p h g s1 _ (H2.chg (Chg.alloc w2 _ (fun _=>False)) id id id)
  generalize (gByte s1).1=a at hNext
  generalize (gByte s1).2=s2 at hNext
  go_enter Tryz.func106,Tryz.ntmps106
  go_wp2_with fail
  rw [← hW1]
  clear hW1
  refine hFirst.mono ?_
  rintro e w2 ⟨rfl,H2,hc2⟩
  clear hFirst
  have b2:=kept2 bB hc2 (by omega)
  have cB:=hbox w2 hc2
  have hs2:=hc2.size
  have hlw:w.heap.size+1<w2.heap.size:=by omega
  have hlw0:w.heap.size<w2.heap.size:=by omega
  have hne:¬ w.heap.size+1=w2.heap.size:=by omega
  have hne0:¬ w.heap.size=w2.heap.size:=by omega
  have hC2:Chg w w2 (fun k=>k=h):=hC1.trans hc2 fun _ _ e=>e
  have hN:=hNext w2 H2
  clear hNext
  go_wp2_with (first | (go_at_call 97;refine (hTk _).mono ?_;rintro e w' ⟨rfl,hw'⟩;subst hw'))
  refine hN.mono ?_
  rintro e w3 ⟨rfl,H3,hc3⟩
  clear hN
  have b3:=kept2 (heap_alloc_new w2 (.cells #[.int .i64 o,.int .i64 0] 74)) hc3 (by omega)
  have d3:=kept2 ((Below.heap_alloc w2 (.cells #[.int .i64 o,.int .i64 0] 74) _ hlw).trans b2) hc3 (by omega)
  obtain ⟨x0,x1,y0,y1⟩:=cells2 b3
  obtain ⟨m0,m1,o0,o1⟩:=cells2 d3
  have hs3:w2.heap.size+1≤w3.heap.size:=by have:=hc3.size;simpa using this
  go_wp2_with fail
  have hC3:Chg w w3 (fun k=>k=h):=(hC2.trans (Chg.alloc w2 _ (fun k=>k=h)) fun _ _ e=>e).trans hc3 fun _ _ e=>e
  have k4:=Chg.setCell w3 ⟨w2.heap.size,1,none⟩ (.int .i64 a)
  obtain ⟨q0,q1,q2⟩:=ins_end (.int .i64 o) (.int .i64 a) (Nat.le_succ _) hp hh hg (kept2 d3 k4 hne) (H3.chg k4 (by show ¬ p=w2.heap.size;omega) (by show ¬ h=w2.heap.size;omega) (by show ¬ g=w2.heap.size;omega)) (hC3.trans k4 (fun i hi (e:i=w2.heap.size)=>by omega))
  exact bodyPost_ret (results_cell1 rfl _ _ _ _ _ rfl (load_ins q0 q1)) rfl q2
set_option maxRecDepth 100000 in
set_option maxHeartbeats 1000000 in
theorem gtypes_s (p h g:Nat)(s:RSt)(w:World)(H:RdS w p h g s.1 s.2)(hg:g<w.heap.size):Calls Tryz.prog 104 #[rdV p] w (ManyEnd 3 1 (gTypes s).1.length (cellsN (gTypes s).1) p h g (gTypes s).2 w):=by
 obtain ⟨hp,hh⟩:=rds_lt4 H
 obtain ⟨n,hn,hnb⟩:=gByte_nat s
 have hE:gTypes s=gMany gByte n (gByte s).2:=by unfold gTypes;rw [hnb,Int.toNat_natCast]
 rw [hE]
 obtain ⟨W1,hW1⟩:∃ W1,W1=w.alloc (.cells #[.pointer (some ⟨p,0,none⟩)] 80):=⟨_,rfl⟩
 have hC1:Chg w W1 (fun k=>k=h):=by rw [hW1];exact Chg.alloc w _ _
 have H1:RdS W1 p h g s.1 s.2:=by rw [hW1];exact H.chg (Chg.alloc w _ (fun _=>False)) id id id
 have hbox:∀ W,Chg W1 W (fun k=>k=h)→W.cell? ⟨w.heap.size,0,none⟩=some (.pointer (some ⟨p,0,none⟩)):=fun W hW=>by rw [hW1] at hW;exact many_box hh hW
 have hFirst:=gbyte_s p h g s W1.drew (H1.chg (Chg.drew W1 (fun _=>False)) id id id)
 rw [hnb] at hFirst
 generalize (gByte s).2=s1 at hFirst ⊢
 have hMany:∀ W,RdS W p h g s1.1 s1.2→w.heap.size≤W.heap.size→Calls Tryz.prog 143 #[rdV p,.int .i64 n,.func (.func 66) #[.pointer (some ⟨p,0,none⟩)] #[]] W (ManyEnd 3 1 (gMany gByte n s1).1.length (cellsN (gMany gByte n s1).1) p h g (gMany gByte n s1).2 W):=fun W HW hz=>manyN p h g gByte W n s1 HW (Nat.lt_of_lt_of_le hg hz) (by omega) (fun W' s' h' _=>gbyte_s p h g s' W' h')
 generalize (gMany gByte n s1).1.length=len at hMany ⊢
 generalize cellsN (gMany gByte n s1).1=xs at hMany ⊢
 generalize (gMany gByte n s1).2=s2 at hMany ⊢
 have c0:=hbox W1 (Chg.refl _ _)
 have hD1:Chg W1 W1.drew (fun k=>k=h):=Chg.drew _ _
 clear hE hnb
 go_enter Tryz.func104,Tryz.ntmps104
 go_wp2_with fail
 rw [← hW1]
 clear hW1
 go_region_held3 (fun W=>W.cell? ⟨w.heap.size,0,none⟩=some (.pointer (some ⟨p,0,none⟩))) (first | exact hbox _ hD3 | exact hbox _ hD2 | exact hbox _ hD1 | exact hbox _ (Chg.refl _ _) | go_keep) (first | (go_at_call 66;refine hFirst.mono ?_;rintro e w2 ⟨rfl,H2,hc2⟩;clear hFirst;have hD2:=hD1.trans hc2 fun _ _ e=>e;have hM:=hMany w2 H2 (Nat.le_trans hC1.size hD2.size);clear hMany) | (go_at_call 143;refine hM.mono ?_;rintro e w3 ⟨⟨v,rfl,hr3⟩,H3,hc3⟩;clear hM;have hD3:=hD2.trans hc3 fun _ _ e=>e))
 all_goals
  go_wp2_with fail
  go_ret
  exact ⟨⟨_,rfl,row_lower4 hr3 (Nat.le_trans hC1.size hD2.size)⟩,H3,hC1.trans hD3 fun _ _ e=>e⟩
theorem or256 (hi lo:Nat)(h1:hi≤255)(h2:lo≤255):bits BinOp.or IntKind.i64 (IntKind.i64.wrap ((hi:Int)*256)) (lo:Int)=((hi*256+lo:Nat):Int):=by
 have e0:IntKind.i64.wrap ((hi:Int)*256)=(hi:Int)*256:=by rw [IntKind.wrap_i64];omega
 rw [e0]
 have e:(hi:Int)*256=((hi*256:Nat):Int):=by omega
 rw [e]
 show IntKind.i64.wrap ((BitVec.ofInt 64 ((hi*256:Nat):Int) ||| BitVec.ofInt 64 (lo:Int)).toNat:Int)=_
 rw [BitVec.toNat_or,ofInt_u64 _ (by omega),ofInt_u64 _ (by omega),nat_join8 _ _ (by omega) (by omega),IntKind.wrap_i64]
 omega
def FnEnd (f:Fn)(p h g:Nat)(st:RSt)(w:World)(x:Ending)(w':World):Prop:=(∃ u0 u1 u2 u3,x=.returned (.agg #[u0,u1,u2,u3])∧FnOwn w' w.heap.size f u0 u1 u2 u3)∧RdS w' p h g st.1 st.2∧Chg w w' (fun k=>k=h)
theorem chg_set4 (w:World)(b:Nat)(x0 x1 x2 x3:Value):Chg w (set4 w b x0 x1 x2 x3) (fun k=>k=b) :=
 (((Chg.setCell w ⟨b,0,none⟩ x0).trans (Chg.setCell _ ⟨b,1,none⟩ x1) fun _ _ e=>e).trans (Chg.setCell _ ⟨b,2,none⟩ x2) fun _ _ e=>e).trans (Chg.setCell _ ⟨b,3,none⟩ x3) fun _ _ e=>e
set_option maxRecDepth 100000 in
set_option maxHeartbeats 1000000 in
theorem gfn_s (p h g:Nat)(s:RSt)(w:World)(H:RdS w p h g s.1 s.2)(hg:g<w.heap.size):Calls Tryz.prog 69 #[rdV p] w (FnEnd (gFn s).1 p h g (gFn s).2 w):=by
 obtain ⟨hp,hh⟩:=rds_lt4 H
 obtain ⟨W1,hW1⟩:∃ W1,W1=(w.alloc (.cells #[.pointer (some ⟨p,0,none⟩)] 80)).alloc (.cells #[.slice none 0 0,.slice none 0 0,.slice none 0 0,.slice none 0 0] 49):=⟨_,rfl⟩
 have hC1:Chg w W1 (fun k=>k=h):=by rw [hW1];exact (Chg.alloc w _ _).trans (Chg.alloc _ _ _) (fun _ _ e=>e)
 have H1:RdS W1 p h g s.1 s.2:=by rw [hW1];exact (H.chg (Chg.alloc w _ (fun _=>False)) id id id).chg (Chg.alloc _ _ (fun _=>False)) id id id
 have bA:W1.heap[w.heap.size]?=some (.cells #[.pointer (some ⟨p,0,none⟩)] 80 (0,0)):=by rw [hW1,Below.heap_alloc _ _ _ (by simp)];exact heap_alloc_new w _
 have bB:W1.heap[w.heap.size+1]?=some (.cells #[.slice none 0 0,.slice none 0 0,.slice none 0 0,.slice none 0 0] 49 (0,0)):=by
  have:=heap_alloc_new (w.alloc (.cells #[.pointer (some ⟨p,0,none⟩)] 80)) (.cells #[.slice none 0 0,.slice none 0 0,.slice none 0 0,.slice none 0 0] 49)
  rw [hW1];simpa using this
 have lB:=lt_of_block bB
 have hbox:∀ W,Chg W1 W (fun k=>k=h)→W.cell? ⟨w.heap.size,0,none⟩=some (.pointer (some ⟨p,0,none⟩)):=fun W hW=>by
  rw [Lib.cell_of_heap ((hW.block _ (by omega) (by omega)).trans bA)];rfl
 have hres:∀ W,Chg W1 W (fun k=>k=h)→W.heap[w.heap.size+1]?=some (.cells #[.slice none 0 0,.slice none 0 0,.slice none 0 0,.slice none 0 0] 49 (0,0)):=fun W hW=>(hW.block _ lB (by omega)).trans bB
 have z1:=hC1.size
 have hgW:∀ W,Chg W1 W (fun k=>k=h)→g<W.heap.size:=fun W hW=>Nat.lt_of_lt_of_le hg (Nat.le_trans z1 hW.size)
 -- what is read
 have hT0:=gtypes_s p h g s W1.drew (H1.chg (Chg.drew W1 (fun _=>False)) id id id) (hgW _ (Chg.drew _ _))
 have hF:gFn s=(⟨(gTypes s).1,(gTypes (gTypes s).2).1,(gTypes (gTypes (gTypes s).2).2).1,(gCode (gTypes (gTypes (gTypes s).2).2).2).1⟩,(gCode (gTypes (gTypes (gTypes s).2).2).2).2):=rfl
 rw [hF]
 clear hF
 obtain ⟨P0,hP0⟩:∃ x,x=(gTypes s).1:=⟨_,rfl⟩
 obtain ⟨s0,hs0⟩:∃ x,x=(gTypes s).2:=⟨_,rfl⟩
 rw [← hP0,← hs0] at hT0 ⊢
 have hT1:∀ W,RdS W p h g s0.1 s0.2→Chg W1 W (fun k=>k=h)→_:=fun W HW hW=>gtypes_s p h g s0 W HW (hgW W hW)
 obtain ⟨P1,hP1⟩:∃ x,x=(gTypes s0).1:=⟨_,rfl⟩
 obtain ⟨s1,hs1⟩:∃ x,x=(gTypes s0).2:=⟨_,rfl⟩
 rw [← hP1,← hs1] at hT1 ⊢
 have hT2:∀ W,RdS W p h g s1.1 s1.2→Chg W1 W (fun k=>k=h)→_:=fun W HW hW=>gtypes_s p h g s1 W HW (hgW W hW)
 obtain ⟨P2,hP2⟩:∃ x,x=(gTypes s1).1:=⟨_,rfl⟩
 obtain ⟨s2,hs2⟩:∃ x,x=(gTypes s1).2:=⟨_,rfl⟩
 rw [← hP2,← hs2] at hT2 ⊢
 obtain ⟨n1,l1,e1⟩:=gByte_nat s2
 obtain ⟨n2,l2,e2⟩:=gByte_nat (gByte s2).2
 have hB1:∀ W,RdS W p h g s2.1 s2.2→_:=fun W HW=>gbyte_s p h g s2 W HW
 have hG:gCode s2=gMany gIns (n1*256+n2) (gByte (gByte s2).2).2:=by unfold gCode;rw [e1,e2,Int.toNat_natCast,Int.toNat_natCast]
 rw [hG]
 rw [e1] at hB1
 generalize (gByte s2).2=s3 at *
 have hB2:∀ W,RdS W p h g s3.1 s3.2→_:=fun W HW=>gbyte_s p h g s3 W HW
 rw [e2] at hB2
 generalize (gByte s3).2=s4 at *
 have hM:∀ W,RdS W p h g s4.1 s4.2→Chg W1 W (fun k=>k=h)→_:=fun W HW hW=>manyI p h g gIns W (n1*256+n2) s4 HW (hgW W hW) (by omega) (fun W' s' h' hz=>gins_s p h g s' W' h' (Nat.lt_of_lt_of_le (hgW W hW) hz))
 have hor:=or256 n1 n2 l1 l2
 generalize n1*256+n2=N at hM hor ⊢
 generalize (gMany gIns N s4).1=P3 at hM ⊢
 generalize (gMany gIns N s4).2=s5 at hM ⊢
 have fin:∀ (w9:World) u0 u1 u2 u3,w9.ownsRow w.heap.size 3 1 u0 P0.length (cellsN P0)→w9.ownsRow w.heap.size 3 1 u1 P1.length (cellsN P1)→w9.ownsRow w.heap.size 3 1 u2 P2.length (cellsN P2)→w9.ownsRow w.heap.size 74 2 u3 P3.length (cellsI P3)→RdS w9 p h g s5.1 s5.2→Chg w w9 (fun k=>k=h)→FnEnd ⟨P0,P1,P2,P3⟩ p h g s5 w (.returned (.agg #[u0,u1,u2,u3])) w9:=fun w9 u0 u1 u2 u3 q0 q1 q2 q3 HR hc=>⟨⟨u0,u1,u2,u3,rfl,q0,q1,q2,q3⟩,HR,hc⟩
 generalize P0.length=m0 at *
 generalize P1.length=m1 at *
 generalize P2.length=m2 at *
 generalize P3.length=m3 at *
 generalize cellsN P0=x0 at *
 generalize cellsN P1=x1 at *
 generalize cellsN P2=x2 at *
 generalize cellsI P3=x3 at *
 have hD0:Chg W1 W1.drew (fun k=>k=h):=Chg.drew _ _
 have c0:=hbox W1 (Chg.refl _ _)
 clear hG e1 e2 hP0 hP1 hP2 hs0 hs1 hs2
 go_enter Tryz.func69,Tryz.ntmps69
 go_wp2_with fail
 rw [← hW1]
 clear hW1
 go_region_held3 (fun W=>W.cell? ⟨w.heap.size,0,none⟩=some (.pointer (some ⟨p,0,none⟩))) (first | go_keep | exact hbox _ hD6 | exact hbox _ hD5 | exact hbox _ hD4 | exact hbox _ hD3 | exact hbox _ hD2 | exact hbox _ hD1 | exact hbox _ hD0 | exact hbox _ (Chg.refl _ _)) (first | (go_at_call 104;first | (refine hT0.mono ?_;clear hT0;rintro e w1 ⟨⟨r0,rfl,q0⟩,I1,k1⟩;obtain ⟨b0,d0,rfl,_⟩:=row_form q0;have hD1:=hD0.trans k1 fun _ _ e=>e;have hU1:=hT1 w1 I1 hD1;clear hT1) | (refine hU1.mono ?_;clear hU1;rintro e w2 ⟨⟨r1,rfl,q1⟩,I2,k2⟩;obtain ⟨b1,d1,rfl,_⟩:=row_form q1;have hD2:=hD1.trans k2 fun _ _ e=>e;have hU2:=hT2 w2 I2 hD2;clear hT2) | (refine hU2.mono ?_;clear hU2;rintro e w3 ⟨⟨r2,rfl,q2⟩,I3,k3⟩;obtain ⟨b2,d2,rfl,_⟩:=row_form q2;have hD3:=hD2.trans k3 fun _ _ e=>e;have hU3:=hB1 w3 I3;clear hB1)) | (go_at_call 66;first | (refine hU3.mono ?_;clear hU3;rintro e w4 ⟨rfl,I4,k4⟩;have hD4:=hD3.trans k4 fun _ _ e=>e;have hU4:=hB2 w4 I4;clear hB2) | (refine hU4.mono ?_;clear hU4;rintro e w5 ⟨rfl,I5,k5⟩;have hD5:=hD4.trans k5 fun _ _ e=>e;have hU5:=hM w5 I5 hD5;clear hM)) | (go_at_call 105;refine hU5.mono ?_;clear hU5;rintro e w6 ⟨⟨r3,rfl,q3⟩,I6,k6⟩;obtain ⟨b3,d3,rfl,_⟩:=row_form q3;have hD6:=hD5.trans k6 fun _ _ e=>e;have b6:=hres w6 hD6;have y0:w6.cell? ⟨w.heap.size+1,0,none⟩=some (.slice none 0 0):=(by rw [Lib.cell_of_heap b6];rfl);have y1:w6.cell? ⟨w.heap.size+1,1,none⟩=some (.slice none 0 0):=(by rw [Lib.cell_of_heap b6];rfl);have y2:w6.cell? ⟨w.heap.size+1,2,none⟩=some (.slice none 0 0):=(by rw [Lib.cell_of_heap b6];rfl);have y3:w6.cell? ⟨w.heap.size+1,3,none⟩=some (.slice none 0 0):=(by rw [Lib.cell_of_heap b6];rfl);have o0:=Lib.frozen_of_heap b6 0;have o1:=Lib.frozen_of_heap b6 1;have o2:=Lib.frozen_of_heap b6 2;have o3:=Lib.frozen_of_heap b6 3))
 all_goals
  have t1:w.heap.size+2≤w1.heap.size:=by have:=hD1.size;omega
  have t2:w.heap.size+2≤w2.heap.size:=by have:=hD2.size;omega
  have t5:w.heap.size+2≤w5.heap.size:=by have:=hD5.size;omega
  have zz:W1.drew.heap.size=W1.heap.size:=rfl
  have B0:w.heap.size+2≤W1.drew.heap.size:=by rw [zz];omega
  have key:∀ {W W':World} {e:TypeId} {size n:Nat} {v:Value} {xs:List Value} {base:Nat},W.ownsRow base e size v n xs→Chg W W' (fun k=>k=h)→w.heap.size+2≤base→W'.ownsRow base e size v n xs:=fun hr hc hb=>row_chg4 hr hc fun g hg e=>by have:=(row_lt4 hr g hg).1;omega
  have T0:=key (key (key (key (key q0 k2 B0) k3 B0) k4 B0) k5 B0) k6 B0
  have T1:=key (key (key (key q1 k3 t1) k4 t1) k5 t1) k6 t1
  have T2:=key (key (key q2 k4 t2) k5 t2) k6 t2
  have Q0:=row_lower4 (set4_row (b:=w.heap.size+1) (.slice b0 m0 d0) (.slice b1 m1 d1) (.slice b2 m2 d2) (.slice b3 m3 d3) T0 (by omega)) (show w.heap.size≤_ by omega)
  have Q1:=row_lower4 (set4_row (b:=w.heap.size+1) (.slice b0 m0 d0) (.slice b1 m1 d1) (.slice b2 m2 d2) (.slice b3 m3 d3) T1 (by omega)) (show w.heap.size≤_ by omega)
  have Q2:=row_lower4 (set4_row (b:=w.heap.size+1) (.slice b0 m0 d0) (.slice b1 m1 d1) (.slice b2 m2 d2) (.slice b3 m3 d3) T2 (by omega)) (show w.heap.size≤_ by omega)
  have Q3:=row_lower4 (set4_row (b:=w.heap.size+1) (.slice b0 m0 d0) (.slice b1 m1 d1) (.slice b2 m2 d2) (.slice b3 m3 d3) q3 (by omega)) (show w.heap.size≤_ by omega)
  obtain ⟨j0,j1,j2,j3⟩:=set4_cells (.slice b0 m0 d0) (.slice b1 m1 d1) (.slice b2 m2 d2) (.slice b3 m3 d3) y0 y1 y2 y3
  have kk:=chg_set4 w6 (w.heap.size+1) (.slice b0 m0 d0) (.slice b1 m1 d1) (.slice b2 m2 d2) (.slice b3 m3 d3)
  have F:=fin _ _ _ _ _ Q0 Q1 Q2 Q3 (I6.chg kk (by omega) (by omega) (by omega)) ((hC1.trans hD6 fun _ _ e=>e).trans kk fun i hi e=>by omega)
  rw [show ((((w6.setCell ⟨w.heap.size+1,0,none⟩ (.slice b0 m0 d0)).setCell ⟨w.heap.size+1,1,none⟩ (.slice b1 m1 d1)).setCell ⟨w.heap.size+1,2,none⟩ (.slice b2 m2 d2)).setCell ⟨w.heap.size+1,3,none⟩ (.slice b3 m3 d3))=set4 w6 (w.heap.size+1) (.slice b0 m0 d0) (.slice b1 m1 d1) (.slice b2 m2 d2) (.slice b3 m3 d3) from rfl]
  generalize set4 w6 (w.heap.size+1) (.slice b0 m0 d0) (.slice b1 m1 d1) (.slice b2 m2 d2) (.slice b3 m3 d3)=W9 at j0 j1 j2 j3 F ⊢
  go_wp2_with fail
  exact bodyPost_ret (results_cell1 rfl _ _ _ _ _ rfl (load_fn j0 j1 j2 j3)) rfl F
def upFrom (w:World)(B:Nat):Addr→Option Value:=fun a=>if a.block<B then none else w.cell? a
theorem upFrom_le {w:World}{B:Nat}:∀ a x,upFrom w B a=some x→w.cell? a=some x:=fun a x h=>by
 unfold upFrom at h
 split at h
 ·cases h
 ·exact h
theorem upFrom_at {w:World}{B:Nat}{a:Addr}{x:Value}(hb:B≤a.block)(h:w.cell? a=some x):upFrom w B a=some x:=by
 unfold upFrom
 rw [if_neg (by omega),h]
theorem upFrom_far {w:World}{B:Nat}{a:Addr}{x:Value}(h:upFrom w B a=some x):B≤a.block:=by
 unfold upFrom at h
 split at h
 ·cases h
 ·omega
theorem upFrom_chg {w w':World}{B B':Nat}{S:Nat→Prop}(hc:Chg w w' S)(hS:∀ i,S i→i<B)(hB:B'≤B):∀ a x,upFrom w B a=some x→upFrom w' B' a=some x:=fun a x h=>by
 have hb:=upFrom_far h
 exact upFrom_at (Nat.le_trans hB hb) (hc.cell (upFrom_le _ _ h) fun e=>by have:=hS _ e;omega)
theorem offRow_chg {w w':World}{v:Value}{B h:Nat}(hc:Chg w w' (fun k=>k=h))(hh:h≤B):∀ a x,offRow w v B a=some x→offRow w' v B a=some x:=fun a x e=>by
 have hb:=offRow_far a x e
 have h1:=hc.cell (offRow_le a x e) (show ¬ a.block=h by omega)
 unfold offRow at e ⊢
 split at e
 ·cases e
 ·rename_i hne
  rw [if_neg hne,h1]
theorem offRow_up {w:World}{v:Value}{B:Nat}:∀ a x,offRow w v B a=some x→upFrom w (B+1) a=some x:=fun a x e=>upFrom_at (offRow_far a x e) (offRow_le a x e)
theorem fs_of_row' {w:World}{base n:Nat}{e:TypeId}{v:Value}{fs:List Fn}{xs:List Value}{C:Addr→Option Value}(h:w.ownsRow base e 4 v n xs)(hF:FRow C fs xs)(hC:∀ a x,base≤a.block→w.cell? a=some x→C a=some x):n=fs.length∧∃ a c,v=.slice a n c∧n≤c∧FsAt C a fs:=by
 have hn:n=fs.length:=by have:=h.1;rw [hF.1] at this;omega
 subst hn
 obtain ⟨a,c,rfl,hc,_,hx⟩:=row_form h
 refine ⟨rfl,a,c,rfl,hc,?_⟩
 rcases hx with ⟨_,h0,_⟩ | ⟨g,rfl,hg,_,hcell'⟩
 ·exact .inl (List.eq_nil_of_length_eq_zero h0)
 ·refine .inr ⟨g,0,rfl,fun j hj=>?_⟩
  obtain ⟨v0,v1,v2,v3,q0,q1,q2,q3,hf⟩:=hF.2 j hj
  rw [Nat.zero_add]
  exact ⟨v0,v1,v2,v3,hC _ _ hg (hcell' _ _ q0),hC _ _ hg (hcell' _ _ q1),hC _ _ hg (hcell' _ _ q2),hC _ _ hg (hcell' _ _ q3),hf⟩
theorem FnOwn.is {w:World}{base:Nat}{f:Fn}{u0 u1 u2 u3:Value}(h:FnOwn w base f u0 u1 u2 u3){C:Addr→Option Value}(hC:∀ a x,base≤a.block→w.cell? a=some x→C a=some x):FnIs C f u0 u1 u2 u3:=by
 obtain ⟨_,a0,c0,e0,_,n0⟩:=ns_of_row h.1 hC
 obtain ⟨_,a1,c1,e1,_,n1⟩:=ns_of_row h.2.1 hC
 obtain ⟨_,a2,c2,e2,_,n2⟩:=ns_of_row h.2.2.1 hC
 obtain ⟨_,a3,c3,e3,_,n3⟩:=is_of_row h.2.2.2 hC
 exact ⟨⟨a0,c0,e0,n0⟩,⟨a1,c1,e1,n1⟩,⟨a2,c2,e2,n2⟩,⟨a3,c3,e3,n3⟩⟩
theorem FnOwn.forms {w:World}{base:Nat}{f:Fn}{u0 u1 u2 u3:Value}(h:FnOwn w base f u0 u1 u2 u3):∀ u ∈ [u0,u1,u2,u3],u.oneCell'=true:=by
 obtain ⟨_,_,rfl,_⟩:=row_form h.1
 obtain ⟨_,_,rfl,_⟩:=row_form h.2.1
 obtain ⟨_,_,rfl,_⟩:=row_form h.2.2.1
 obtain ⟨_,_,rfl,_⟩:=row_form h.2.2.2
 simp [Value.oneCell']
def ManyFEnd (L:List Fn)(p h g:Nat)(st:RSt)(w:World)(x:Ending)(w':World):Prop:=(∃ a c,x=.returned (.slice a L.length c)∧FsAt (upFrom w' (w.heap.size+1)) a L)∧RdS w' p h g st.1 st.2∧Chg w w' (fun k=>k=h)
theorem manyf_step {w6 w2 wr w1:World}{h k base:Nat}{v v':Value}{xs:List Value}{L:List Fn}{f:Fn}{u0 u1 u2 u3:Value}{o:Obj}(hB:base<w1.heap.size)(hh:h≤base)(hz:w1.heap.size≤wr.heap.size)(hrow:wr.ownsRow w1.heap.size 49 4 v k xs)(hF:FRow (offRow wr v base) L xs)(hc2:Chg wr w2 (fun k=>k=h))(hO:FnOwn w2 wr.heap.size f u0 u1 u2 u3)(hs:Step (w2.alloc o) v w6 v'):FRow (offRow w6 v' base) (L++[f]) (xs++[u0,u1,u2,u3]):=by
 have h1:FRow (offRow w2 v base) (L++[f]) (xs++[u0,u1,u2,u3]):=(hF.keep (offRow_chg hc2 hh)).snoc (hO.is (offRow_new (fun k e=>(row_lt4 hrow k e).2) (by omega)))
 exact (h1.keep (offRow_keep fun a x e=>alloc_keep _ _ _ _ e)).keep (offRow_step hs)
set_option maxRecDepth 100000 in
set_option maxHeartbeats 1000000 in
theorem manyF (p h g:Nat)(w:World)(n:Nat)(st:RSt)(H:RdS w p h g st.1 st.2)(hg:g<w.heap.size)(hn:n≤65535):Calls Tryz.prog 68 #[rdV p,.int .i64 n,.func (.func 69) #[rdV p] #[]] w (ManyFEnd (gMany gFn n st).1 p h g (gMany gFn n st).2 w):=by
 obtain ⟨hp,hh⟩:=rds_lt4 H
 have H1:=H.chg (Chg.alloc w (.cells #[.pointer (some ⟨p,0,none⟩)] 80) (fun _=>False)) id id id
 have hC0:=Chg.alloc w (.cells #[.pointer (some ⟨p,0,none⟩)] 80) (fun k=>k=h)
 obtain ⟨W1,hW1⟩:∃ W1,W1=w.alloc (.cells #[.pointer (some ⟨p,0,none⟩)] 80):=⟨_,rfl⟩
 have hbox:∀ W,Chg W1 W (fun k=>k=h)→W.cell? ⟨w.heap.size,0,none⟩=some (.pointer (some ⟨p,0,none⟩)):=fun W hW=>by rw [hW1] at hW;exact many_box hh hW
 have hz1:W1.heap.size=w.heap.size+1:=by rw [hW1];simp
 rw [← hW1] at H1 hC0
 have hhW:h<W1.heap.size:=by omega
 have fin:∀ wr v L xs st',gMany gFn n st=(L,st')→wr.ownsRow W1.heap.size 49 4 v L.length xs→FRow (offRow wr v w.heap.size) L xs→RdS wr p h g st'.1 st'.2→Chg W1 wr (fun k=>k=h)→ManyFEnd (gMany gFn n st).1 p h g (gMany gFn n st).2 w (.returned v) wr:=fun wr v L xs st' e hr hF HR hc=>by
  rw [e]
  obtain ⟨_,a,c,rfl,_,hA⟩:=fs_of_row' (C:=upFrom wr (w.heap.size+1)) hr (hF.keep offRow_up) (fun a x hb e=>upFrom_at (by omega) e)
  exact ⟨⟨a,c,rfl,hA⟩,HR,hC0.trans hc fun _ _ e=>e⟩
 go_enter Tryz.func68,Tryz.ntmps68
 go_wp2_with fail
 rw [← hW1]
 clear hW1
 go_loopw [7,9] (fun v i wr=>∃ (k:Nat) (L:List Fn) (s:RSt) (xs:List Value),k≤n∧i=.int .i64 k∧L.length=k∧Hid (gMany gFn n st=(L++(gMany gFn (n - k) s).1,(gMany gFn (n - k) s).2))∧wr.ownsRow W1.heap.size 49 4 v k xs∧FRow (offRow wr v w.heap.size) L xs∧RdS wr p h g s.1 s.2∧Chg W1 wr (fun k=>k=h)) (fun _ i _=>n - (intOf i).toNat)
 case atStart=>exact ⟨0,[],st,[],Nat.zero_le _,rfl,rfl,hid (by simp),World.ownsRow_nil _ _ _ _,FRow.nil _,H1,Chg.refl _ _⟩
 case round =>
  obtain ⟨k,L,s,xs,hk,rfl,hL,HM,hrow,hF,HR,C1⟩:=hrel
  have cb:=hbox wr C1
  have hEr:=rerr_any p h g s.1 s.2 wr HR
  by_cases hlt:k<n
  ·by_cases herr:s.2=0
   ·have HM':=hid (gMany_round hlt herr HM.out)
    have hO:=gfn_s p h g s wr HR (Nat.lt_of_lt_of_le hg (Nat.le_trans hC0.size C1.size))
    rw [herr] at hEr
    obtain ⟨x,hx⟩:∃ x,x=(gFn s).1:=⟨_,rfl⟩
    obtain ⟨s',hs'⟩:∃ s',s'=(gFn s).2:=⟨_,rfl⟩
    rw [← hx] at hO HM'
    rw [← hs'] at hO HM'
    have hsW:=C1.size
    clear HM hx hs' hbox
    go_wp2_with (first | (go_at_call 70;refine hEr.mono ?_;rintro e w' ⟨rfl,rfl⟩;clear hEr) | (go_at_call 69;refine hO.mono ?_;clear hO;rintro e w2 ⟨⟨x0,x1,x2,x3,rfl,hQ⟩,H2,hc2⟩;have hs2:=hc2.size;have h4:=hQ.forms) | (at_builtin;refine wpList_appN _ rfl _ _ 25 rfl elemN_fn W1.heap.size _ k xs rfl (many_row rfl hhW hrow hc2 _) _ rfl 1 [x0,x1,x2,x3] (.inr ⟨⟨w2.heap.size,0,none⟩,1,rfl,cells_new4 w2 [x0,x1,x2,x3] 49 _ rfl⟩) rfl h4 (by unfold maxLen;omega) (by omega) (by simp;omega) ?_;intro v' w6 hr6 hs6))
    obtain ⟨F6,C6⟩:=many_step rfl (Nat.lt_of_lt_of_le hp hC0.size) hhW (Nat.lt_of_lt_of_le hg hC0.size) C1 hrow hc2 H2 hs6
    have R6:=manyf_step (base:=w.heap.size) (by omega) (by omega) hsW hrow hF hc2 hQ hs6
    exact ⟨⟨k+1,L++[x],s',_,by omega,by go_num,by simp [hL],HM',hr6,R6,F6,C6⟩,by simp [intOf];omega⟩
   ·have hne:(s.2 != 0)=true:=by simp [herr]
    have hE:=gMany_end (.inr herr) HM.out
    have hG:=fin wr _ L xs s hE (by rw [hL];exact hrow) hF HR C1
    clear HM fin hE
    generalize s.2=er at hEr hne
    go_wp2_with (go_at_call 70;refine hEr.mono ?_;rintro e w' ⟨rfl,rfl⟩;clear hEr)
    go_ret
    exact hG
  ·obtain rfl:k=n:=by omega
   have hE:=gMany_end (.inl rfl) HM.out
   have hG:=fin wr _ L xs s hE (by rw [hL];exact hrow) hF HR C1
   clear HM fin hE
   go_wp2_with fail
   go_ret
   exact hG
theorem gText_len (s:RSt):(gText s).1.length≤65535:=by
 unfold gText ansText
 simp only
 split
 ·simp
 split
 ·simp
 ·have:=tl_le s.1
  simp only [List.length_take]
  omega
theorem gMany_len {α:Type}{one:RSt→α × RSt}:∀ (n:Nat) (s:RSt),(gMany one n s).1.length≤n
 | 0,_=>Nat.le_refl _
 | n+1,s=>by
  unfold gMany
  split
  ·simp
  ·simp only [List.length_cons]
   have:=gMany_len (one:=one) n (one s).2
   omega
theorem gMany_all {α:Type}{one:RSt→α × RSt}{P:α→Prop}(h:∀ s,P (one s).1):∀ (n:Nat) (s:RSt),∀ x ∈ (gMany one n s).1,P x
 | 0,_=>fun x hx=>by simp [gMany] at hx
 | n+1,s=>fun x hx=>by
  unfold gMany at hx
  split at hx
  ·simp at hx
  ·simp only [List.mem_cons] at hx
   rcases hx with rfl | hx
   ·exact h s
   ·exact gMany_all h n _ x hx
theorem gByte_le (s:RSt):(gByte s).1.toNat≤255:=by
 obtain ⟨n,hn,e⟩:=gByte_nat s
 rw [e,Int.toNat_natCast];exact hn
theorem gFn_fits (s:RSt):(gFn s).1.fits:=by
 have hT:∀ s,(gTypes s).1.length≤255:=fun s=>Nat.le_trans (gMany_len _ _) (gByte_le s)
 have hC:∀ s,(gCode s).1.length≤65535:=fun s=>Nat.le_trans (gMany_len _ _) (by have:=gByte_le s;have:=gByte_le (gByte s).2;omega)
 have h0:=hT s
 have h1:=hT (gTypes s).2
 have h2:=hT (gTypes (gTypes s).2).2
 have h3:=hC (gTypes (gTypes (gTypes s).2).2).2
 exact ⟨Nat.le_trans h0 (by decide),Nat.le_trans h1 (by decide),Nat.le_trans h2 (by decide),Nat.le_trans h3 (by decide)⟩
theorem gScr_fits (s:RSt):(gScr s).1.fits:=by
 have h0:(gConsts s).1.length≤255:=Nat.le_trans (gMany_len _ _) (gByte_le s)
 have h1:(gFuncs (gConsts s).2).1.length≤255:=Nat.le_trans (gMany_len _ _) (gByte_le _)
 exact ⟨Nat.le_trans h0 (by decide),Nat.le_trans h1 (by decide),gMany_all gFn_fits _ _,fun x hx=>Nat.le_trans (gMany_all (P:=fun x=>x.length≤65535) gText_len _ _ x hx) (by decide)⟩
theorem ss_up {w:World}{base n:Nat}{e:TypeId}{v:Value}{ns:List (List UInt8)}(h:w.ownsRow base e 1 v n (cellsS ns)):∃ a c,v=.slice a ns.length c∧SsAt (upFrom w base) a ns:=by
 obtain ⟨hn,a,c,rfl,_,hs⟩:=ss_of_row h (C:=upFrom w base) (fun a x hb e=>upFrom_at hb e)
 exact ⟨a,c,by rw [hn],hs⟩
def ScrEnd (s:Scr)(p h g:Nat)(st:RSt)(w:World)(x:Ending)(w':World):Prop:=(∃ u0 u1,x=.returned (.agg #[u0,u1])∧ScIs (upFrom w' (w.heap.size+2)) s u0 u1)∧RdS w' p h g st.1 st.2∧Chg w w' (fun k=>k=h)
set_option maxRecDepth 100000 in
set_option maxHeartbeats 1000000 in
theorem gscr_s (p h g:Nat)(s:RSt)(w:World)(H:RdS w p h g s.1 s.2)(hg:g<w.heap.size):Calls Tryz.prog 35 #[rdV p] w (ScrEnd (gScr s).1 p h g (gScr s).2 w):=by
 obtain ⟨hp,hh⟩:=rds_lt4 H
 obtain ⟨W1,hW1⟩:∃ W1,W1=(w.alloc (.cells #[.pointer (some ⟨p,0,none⟩)] 80)).alloc (.cells #[.slice none 0 0,.slice none 0 0] 27):=⟨_,rfl⟩
 have hC1:Chg w W1 (fun k=>k=h):=by rw [hW1];exact (Chg.alloc w _ _).trans (Chg.alloc _ _ _) (fun _ _ e=>e)
 have H1:RdS W1 p h g s.1 s.2:=by rw [hW1];exact (H.chg (Chg.alloc w _ (fun _=>False)) id id id).chg (Chg.alloc _ _ (fun _=>False)) id id id
 have bA:W1.heap[w.heap.size]?=some (.cells #[.pointer (some ⟨p,0,none⟩)] 80 (0,0)):=by rw [hW1,Below.heap_alloc _ _ _ (by simp)];exact heap_alloc_new w _
 have bB:W1.heap[w.heap.size+1]?=some (.cells #[.slice none 0 0,.slice none 0 0] 27 (0,0)):=by
  have:=heap_alloc_new (w.alloc (.cells #[.pointer (some ⟨p,0,none⟩)] 80)) (.cells #[.slice none 0 0,.slice none 0 0] 27)
  rw [hW1];simpa using this
 have lB:=lt_of_block bB
 have hz:W1.heap.size=w.heap.size+2:=by rw [hW1];simp
 have hbox:∀ W,Chg W1 W (fun k=>k=h)→W.cell? ⟨w.heap.size,0,none⟩=some (.pointer (some ⟨p,0,none⟩)):=fun W hW=>by
  rw [Lib.cell_of_heap ((hW.block _ (by omega) (by omega)).trans bA)];rfl
 have hres:∀ W,Chg W1 W (fun k=>k=h)→W.heap[w.heap.size+1]?=some (.cells #[.slice none 0 0,.slice none 0 0] 27 (0,0)):=fun W hW=>(hW.block _ lB (by omega)).trans bB
 have hgW:∀ W,Chg W1 W (fun k=>k=h)→g<W.heap.size:=fun W hW=>Nat.lt_of_lt_of_le hg (Nat.le_trans hC1.size hW.size)
 have hB0:=gbyte_s p h g s W1.drew (H1.chg (Chg.drew W1 (fun _=>False)) id id id)
 obtain ⟨n1,l1,e1⟩:=gByte_nat s
 have hc:gConsts s=gMany gText n1 (gByte s).2:=by unfold gConsts;rw [e1,Int.toNat_natCast]
 have hS:gScr s=(⟨(gConsts s).1,(gFuncs (gConsts s).2).1⟩,(gFuncs (gConsts s).2).2):=rfl
 rw [hS,hc]
 rw [e1] at hB0
 generalize (gByte s).2=s1 at *
 have hM1:∀ W,RdS W p h g s1.1 s1.2→Chg W1 W (fun k=>k=h)→_:=fun W HW hW=>manyS p h g gText W n1 s1 HW (hgW W hW) (by omega) (fun W' s' h' _=>gtext_s p h g s' W' h')
 generalize (gMany gText n1 s1).1=P0 at hM1 ⊢
 generalize (gMany gText n1 s1).2=s2 at hM1 ⊢
 have hB1:∀ W,RdS W p h g s2.1 s2.2→_:=fun W HW=>gbyte_s p h g s2 W HW
 obtain ⟨n2,l2,e2⟩:=gByte_nat s2
 have hf:gFuncs s2=gMany gFn n2 (gByte s2).2:=by unfold gFuncs;rw [e2,Int.toNat_natCast]
 rw [hf]
 rw [e2] at hB1
 generalize (gByte s2).2=s3 at *
 have hM2:∀ W,RdS W p h g s3.1 s3.2→Chg W1 W (fun k=>k=h)→_:=fun W HW hW=>manyF p h g W n2 s3 HW (hgW W hW) (by omega)
 generalize (gMany gFn n2 s3).1=P1 at hM2 ⊢
 generalize (gMany gFn n2 s3).2=s4 at hM2 ⊢
 have hD0:Chg W1 W1.drew (fun k=>k=h):=Chg.drew _ _
 have c0:=hbox W1 (Chg.refl _ _)
 have fin:∀ (w9:World) a0 d0 a1 d1,SsAt (upFrom w9 (w.heap.size+2)) a0 P0→FsAt (upFrom w9 (w.heap.size+2)) a1 P1→RdS w9 p h g s4.1 s4.2→Chg w w9 (fun k=>k=h)→ScrEnd ⟨P0,P1⟩ p h g s4 w (.returned (.agg #[.slice a0 P0.length d0,.slice a1 P1.length d1])) w9:=fun w9 a0 d0 a1 d1 q0 q1 HR hc=>⟨⟨_,_,rfl,⟨a0,d0,rfl,q0⟩,⟨a1,d1,rfl,q1⟩⟩,HR,hc⟩
 clear hc hf hS e1 e2
 go_enter Tryz.func35,Tryz.ntmps35
 go_wp2_with fail
 rw [← hW1]
 clear hW1
 go_region_held3 (fun W=>W.cell? ⟨w.heap.size,0,none⟩=some (.pointer (some ⟨p,0,none⟩))) (first | go_keep | exact hbox _ hD4 | exact hbox _ hD3 | exact hbox _ hD2 | exact hbox _ hD1 | exact hbox _ hD0 | exact hbox _ (Chg.refl _ _)) (first | (go_at_call 66;first | (refine hB0.mono ?_;clear hB0;rintro e w1 ⟨rfl,I1,k1⟩;have hD1:=hD0.trans k1 fun _ _ e=>e;have hU1:=hM1 w1 I1 hD1;clear hM1) | (refine hU2.mono ?_;clear hU2;rintro e w3 ⟨rfl,I3,k3⟩;have hD3:=hD2.trans k3 fun _ _ e=>e;have hU3:=hM2 w3 I3 hD3;clear hM2)) | (go_at_call 65;refine hU1.mono ?_;clear hU1;rintro e w2 ⟨⟨r0,rfl,q0⟩,I2,k2⟩;obtain ⟨a0,d0,rfl,q0'⟩:=ss_up q0;have hD2:=hD1.trans k2 fun _ _ e=>e;have hU2:=hB1 w2 I2;clear hB1) | (go_at_call 68;refine hU3.mono ?_;clear hU3;rintro e w4 ⟨⟨a1,d1,rfl,q1⟩,I4,k4⟩;have hD4:=hD3.trans k4 fun _ _ e=>e;have b4:=hres w4 hD4;obtain ⟨y0,y1,o0,o1⟩:=cells2 b4))
 all_goals
  have z1:w.heap.size+2≤w1.heap.size:=by have:=hD1.size;omega
  have z3:w.heap.size+2≤w3.heap.size+1:=by have:=hD3.size;omega
  have s1':=Chg.setCell w4 ⟨w.heap.size+1,0,none⟩ (.slice a0 P0.length d0)
  have s2':=s1'.trans (Chg.setCell _ ⟨w.heap.size+1,1,none⟩ (.slice a1 P1.length d1)) fun _ _ e=>e
  have T0:=((q0'.keep (upFrom_chg k3 (B':=w1.heap.size) (fun i (e:i=h)=>by omega) (Nat.le_refl _))).keep (upFrom_chg k4 (B':=w1.heap.size) (fun i (e:i=h)=>by omega) (Nat.le_refl _))).keep (upFrom_chg s2' (B':=w.heap.size+2) (fun i (e:i=w.heap.size+1)=>by omega) z1)
  have T1:=q1.keep (upFrom_chg s2' (B':=w.heap.size+2) (fun i (e:i=w.heap.size+1)=>by have:=hD3.size;omega) z3)
  have F:=fin _ a0 d0 a1 d1 T0 T1 (I4.chg s2' (by show ¬ p=w.heap.size+1;omega) (by show ¬ h=w.heap.size+1;omega) (by show ¬ g=w.heap.size+1;omega)) ((hC1.trans hD4 fun _ _ e=>e).trans s2' fun i hi (e:i=w.heap.size+1)=>by omega)
  obtain ⟨j0,j1,_,_⟩:=cells2 (set2_1 (u:=.slice a1 P1.length d1) (set2_0 (u:=.slice a0 P0.length d0) b4))
  go_wp2_with fail
  exact bodyPost_ret (results_cell1 rfl _ _ _ _ _ rfl (load_scr j0 j1)) rfl F
theorem results_mix4 {fn:Func}{t u:Tmp}{ty:TypeId}(h:fn.results=#[.cell t ty,.tmp u])(tmps:Array Value)(P:Program)(w:World)(a:Addr)(v:Value)(ha:tmps[t]?.getD undef=.pointer (some a))(hl:(loadVar ty a).run P w=.ok v w) :
  (results fn tmps).run P w=.ok (.tuple #[v,tmps[u]?.getD undef]) w:=by
 simp [results,h,ha,asAddr,hl]
theorem ret_scr2 {fn:Func}{R:Ending→World→Prop}{a:Act}{t u:Tmp}{w:World}{b:Nat}{x y z:Value}(h:fn.results=#[.cell t 27,.tmp u])(ha:a.tmps[t]?.getD undef=.pointer (some ⟨b,0,none⟩))(hd:a.defers=[])(hu:a.tmps[u]?.getD undef=z)(h0:w.cell? ⟨b,0,none⟩=some x)(h1:w.cell? ⟨b,1,none⟩=some y)(hR:R (.returned (.tuple #[.agg #[x,y],z])) w):bodyPost Tryz.prog fn R .ret a w :=
 bodyPost_ret (by rw [results_mix4 h _ _ _ _ _ ha (load_scr h0 h1),hu]) hd hR
def getS (bs:List UInt8):Scr:=if getOk bs=true then (gScr (bs,0)).1 else ⟨[],[]⟩
def getE4 (bs:List UInt8):Int:=if getOk bs=true then 0 else 30
def GetEnd4 (bs:List UInt8)(w:World)(e:Ending)(w':World):Prop:=(∃ u0 u1,e=.returned (.tuple #[.agg #[u0,u1],.int .i64 (getE4 bs)])∧ScIs w'.cell? (getS bs) u0 u1)∧Below w.heap.size w w'
theorem scr_none (C:Addr→Option Value):ScIs C ⟨[],[]⟩ (.slice none 0 0) (.slice none 0 0):=⟨⟨none,0,rfl,.inl rfl⟩,⟨none,0,rfl,.inl rfl⟩⟩
theorem get_no {bs:List UInt8}(h:getOk bs=false):getE4 bs=30∧getS bs=⟨[],[]⟩:=by simp [getE4,getS,h]
theorem get_yes {bs:List UInt8}(h:getOk bs=true):getE4 bs=0∧getS bs=(gScr (bs,0)).1:=by simp [getE4,getS,h]
set_option maxRecDepth 100000 in
set_option maxHeartbeats 1000000 in
theorem get4_any (a:Option Addr)(m c:Nat)(bs:List UInt8)(hm:bs.length=m)(w:World)(hB:Bs w a bs)(hm':m≤140737488355328):Calls Tryz.prog 20 #[.slice a m c] w (GetEnd4 bs w):=by
 obtain ⟨W0,hW0⟩:∃ W0,W0=w.alloc (.cells #[.slice none 0 0,.slice none 0 0] 27):=⟨_,rfl⟩
 have hz0:W0.heap.size=w.heap.size+1:=by rw [hW0];simp
 have hb0:Below w.heap.size w W0:=by rw [hW0];exact (Below.refl _ w).alloc (Nat.le_refl _) _
 have b0:W0.heap[w.heap.size]?=some (.cells #[.slice none 0 0,.slice none 0 0] 27 (0,0)):=by rw [hW0];exact heap_alloc_new w _
 have hNew:=rnew_any a m c bs W0 hm hm' (hB.keep (below_keep hb0))
 have hsf:=gScr_fits (bs,0)
 have hok:getOk bs=(decide (doneOf (gScr (bs,0)).2.1 (gScr (bs,0)).2.2=0) && (gScr (bs,0)).1.right):=rfl
 have hno:=fun h=>get_no (bs:=bs) h
 have hyes:=fun h=>get_yes (bs:=bs) h
 have hScr:∀ (W:World) (p h g:Nat),RdS W p h g bs 0→g<W.heap.size→Calls Tryz.prog 35 #[rdV p] W (ScrEnd (gScr (bs,0)).1 p h g (gScr (bs,0)).2 W):=fun W p h g H hg=>gscr_s p h g (bs,0) W H hg
 have fin:∀ w9 u0 u1,ScIs w9.cell? (getS bs) u0 u1→Below w.heap.size w w9→GetEnd4 bs w (.returned (.tuple #[.agg #[u0,u1],.int .i64 (getE4 bs)])) w9:=fun w9 u0 u1 h hb=>⟨⟨u0,u1,rfl,h⟩,hb⟩
 generalize (gScr (bs,0)).1=s at *
 generalize (gScr (bs,0)).2=st at *
 go_enter Tryz.func20,Tryz.ntmps20
 go_wp2_with fail
 rw [← hW0]
 clear hW0
 refine hNew.mono ?_
 rintro e w1 ⟨h,rfl,hh,H1,hb1⟩
 clear hNew
 obtain ⟨W2,hW2⟩:∃ W2,W2=w1.alloc (.cells #[.pointer (some ⟨h+1,0,none⟩)] 80):=⟨_,rfl⟩
 have H2:RdS W2 (h+1) h W0.heap.size bs 0:=by rw [hW2];exact H1.chg (Chg.alloc w1 _ (fun _=>False)) id id id
 have hl1:=rds_lt4 H1
 have hz2:W2.heap.size=w1.heap.size+1:=by rw [hW2];simp
 have bx2:W2.heap[w1.heap.size]?=some (.cells #[.pointer (some ⟨h+1,0,none⟩)] 80 (0,0)):=by rw [hW2];exact heap_alloc_new w1 _
 have b2:W2.heap[w.heap.size]?=some (.cells #[.slice none 0 0,.slice none 0 0] 27 (0,0)):=by rw [hW2,Below.heap_alloc _ _ _ (by omega)];exact (hb1.block _ (by omega)).trans b0
 have hb2:Below w.heap.size w W2:=by rw [hW2];exact (hb0.trans (hb1.mono hb0.size)).alloc (by omega) _
 have hS:=hScr W2 (h+1) h W0.heap.size H2 (by omega)
 clear hScr
 go_wp2_with fail
 rw [← hW2]
 clear hW2
 refine hS.mono ?_
 rintro e w3 ⟨⟨u0,u1,rfl,hU⟩,H3,hc3⟩
 clear hS
 have hU':=hU
 obtain ⟨⟨a0,d0,rfl,_⟩,⟨a1,d1,rfl,_⟩⟩:=hU'
 generalize s.consts.length=n0 at *
 generalize s.funcs.length=n1 at *
 have hs3:=hc3.size
 have bx3:=(hc3.block _ (lt_of_block bx2) (by omega)).trans bx2
 have b3:=(hc3.block _ (lt_of_block b2) (by omega)).trans b2
 have px3:w3.cell? ⟨w1.heap.size,0,none⟩=some (.pointer (some ⟨h+1,0,none⟩)):=by rw [Lib.cell_of_heap bx3];rfl
 have hlw3:w1.heap.size<w3.heap.size:=by omega
 have hb3:Below w.heap.size w w3:=hb2.trans (hc3.below hb2.size (fun i (e:i=h)=>by omega))
 obtain ⟨W4,hW4⟩:∃ W4,W4=w3.alloc (.cells #[.slice a0 n0 d0,.slice a1 n1 d1] 27):=⟨_,rfl⟩
 have hz4:W4.heap.size=w3.heap.size+1:=by rw [hW4];simp
 have bs4:W4.heap[w3.heap.size]?=some (.cells #[.slice a0 n0 d0,.slice a1 n1 d1] 27 (0,0)):=by rw [hW4];exact heap_alloc_new w3 _
 have bx4:W4.heap[w1.heap.size]?=some (.cells #[.pointer (some ⟨h+1,0,none⟩)] 80 (0,0)):=by rw [hW4,Below.heap_alloc _ _ _ (by omega)];exact bx3
 have b4:W4.heap[w.heap.size]?=some (.cells #[.slice none 0 0,.slice none 0 0] 27 (0,0)):=by rw [hW4,Below.heap_alloc _ _ _ (by omega)];exact b3
 have H4:RdS W4 (h+1) h W0.heap.size st.1 st.2:=by rw [hW4];exact H3.chg (Chg.alloc w3 _ (fun _=>False)) id id id
 have hb4:Below w.heap.size w W4:=by rw [hW4];exact hb3.alloc (by omega) _
 have hU4:ScIs (upFrom W4 (w1.heap.size+3)) s (.slice a0 n0 d0) (.slice a1 n1 d1):=by
  rw [hW4]
  have e:w1.heap.size+3=W2.heap.size+2:=by omega
  rw [e]
  exact hU.keep (upFrom_chg (Chg.alloc w3 _ (fun _=>False)) (fun _ e=>e.elim) (Nat.le_refl _))
 have hD:=rdone_any (h+1) h W0.heap.size st.1 st.2 W4 H4
 have px:W4.cell? ⟨w1.heap.size,0,none⟩=some (.pointer (some ⟨h+1,0,none⟩)):=by rw [Lib.cell_of_heap bx4];rfl
 obtain ⟨y0,y1,o0,o1⟩:=cells2 b4
 obtain ⟨v0,v1,_,_⟩:=cells2 bs4
 clear hU H1 H2 H3 hc3 bx2 bx3 b2 b3 b0 hb1 hb2
 have fin0:getOk bs=false→∀ w5,Below W4.heap.size W4 w5→((w5.setCell ⟨w.heap.size,0,none⟩ (.slice none 0 0)).setCell ⟨w.heap.size,1,none⟩ (.slice none 0 0)).cell? ⟨w.heap.size,0,none⟩=some (.slice none 0 0)∧((w5.setCell ⟨w.heap.size,0,none⟩ (.slice none 0 0)).setCell ⟨w.heap.size,1,none⟩ (.slice none 0 0)).cell? ⟨w.heap.size,1,none⟩=some (.slice none 0 0)∧GetEnd4 bs w (.returned (.tuple #[.agg #[.slice none 0 0,.slice none 0 0],.int .i64 30])) ((w5.setCell ⟨w.heap.size,0,none⟩ (.slice none 0 0)).setCell ⟨w.heap.size,1,none⟩ (.slice none 0 0)):=fun hf w5 hb5=>by
  have b5:=(hb5.block _ (lt_of_block b4)).trans b4
  obtain ⟨j0,j1,_,_⟩:=cells2 (set2_1 (u:=.slice none 0 0) (set2_0 (u:=.slice none 0 0) b5))
  have hb:=((hb4.trans (hb5.mono hb4.size)).setCell (p:=⟨w.heap.size,0,none⟩) (Nat.le_refl _) (.slice none 0 0)).setCell (p:=⟨w.heap.size,1,none⟩) (Nat.le_refl _) (.slice none 0 0)
  have:=fin _ (.slice none 0 0) (.slice none 0 0) (by rw [(hno hf).2];exact scr_none _) hb
  rw [(hno hf).1] at this
  exact ⟨j0,j1,this⟩
 have res5:∀ w5,Below W4.heap.size W4 w5→(w5.cell? ⟨w.heap.size,0,none⟩=some (.slice none 0 0)∧w5.cell? ⟨w.heap.size,1,none⟩=some (.slice none 0 0)∧w5.frozen? ⟨w.heap.size,0,none⟩=false∧w5.frozen? ⟨w.heap.size,1,none⟩=false)∧w5.cell? ⟨w3.heap.size,0,none⟩=some (.slice a0 n0 d0)∧w5.cell? ⟨w3.heap.size,1,none⟩=some (.slice a1 n1 d1):=fun w5 hb5=>by
  obtain ⟨q0,q1,_,_⟩:=cells2 ((hb5.block _ (lt_of_block bs4)).trans bs4)
  exact ⟨cells2 ((hb5.block _ (lt_of_block b4)).trans b4),q0,q1⟩
 by_cases hd:doneOf st.1 st.2=0
 ·rw [hd] at hD
  have hR:=right4_any s _ _ W4 (hU4.keep upFrom_le) hsf
  cases hr:s.right with
  | false =>
   have hf:getOk bs=false:=by rw [hok,hr];simp
   rw [hr] at hR
   go_wp2_with fail
   rw [← hW4]
   clear hW4
   refine hD.mono ?_
   rintro e w' ⟨rfl,hw'⟩
   subst hw'
   clear hD
   go_wp2_with (go_at_call 30;refine hR.mono ?_;rintro e w5 ⟨rfl,hb5⟩;clear hR;obtain ⟨⟨i0,i1,i2,i3⟩,i4,i5⟩:=res5 w5 hb5)
   obtain ⟨j0,j1,F⟩:=fin0 hf w5 hb5
   exact ret_scr2 rfl rfl rfl rfl j0 j1 F
  | true =>
   have hf:getOk bs=true:=by rw [hok,hr,hd];rfl
   rw [hr] at hR
   go_wp2_with fail
   rw [← hW4]
   clear hW4
   refine hD.mono ?_
   rintro e w' ⟨rfl,hw'⟩
   subst hw'
   clear hD
   go_wp2_with (go_at_call 30;refine hR.mono ?_;rintro e w5 ⟨rfl,hb5⟩;clear hR;obtain ⟨⟨i0,i1,i2,i3⟩,i4,i5⟩:=res5 w5 hb5)
   have b5:=(hb5.block _ (lt_of_block b4)).trans b4
   obtain ⟨j0,j1,_,_⟩:=cells2 (set2_1 (u:=.slice a1 n1 d1) (set2_0 (u:=.slice a0 n0 d0) b5))
   have k5:=(Chg.setCell w5 ⟨w.heap.size,0,none⟩ (.slice a0 n0 d0)).trans (Chg.setCell _ ⟨w.heap.size,1,none⟩ (.slice a1 n1 d1)) fun _ _ e=>e
   have hb:=((hb4.trans (hb5.mono hb4.size)).setCell (p:=⟨w.heap.size,0,none⟩) (Nat.le_refl _) (.slice a0 n0 d0)).setCell (p:=⟨w.heap.size,1,none⟩) (Nat.le_refl _) (.slice a1 n1 d1)
   have T:=(hU4.keep (upFrom_chg (Chg.of_below (S:=fun _=>False) hb5) (fun _ e=>e.elim) (Nat.le_refl _))).keep (upFrom_chg k5 (B':=0) (fun i (e:i=w.heap.size)=>by omega) (Nat.zero_le _))
   have F:=fin _ (.slice a0 n0 d0) (.slice a1 n1 d1) (by rw [(hyes hf).2];exact T.keep upFrom_le) hb
   rw [(hyes hf).1] at F
   exact ret_scr2 rfl rfl rfl rfl j0 j1 F
 ·have hf:getOk bs=false:=by rw [hok,decide_eq_false hd];rfl
  have hne:(doneOf st.1 st.2 != 0)=true:=by simp [hd]
  obtain ⟨j0,j1,F⟩:=fin0 hf W4 (Below.refl _ _)
  generalize doneOf st.1 st.2=dn at hD hne
  go_wp2_with fail
  rw [← hW4]
  clear hW4
  refine hD.mono ?_
  rintro e w' ⟨rfl,hw'⟩
  subst hw'
  clear hD
  go_wp2_with fail
  exact ret_scr2 rfl rfl rfl rfl j0 j1 F
end Go.Proofs.YtpmlnkjamhelnaaGreat
