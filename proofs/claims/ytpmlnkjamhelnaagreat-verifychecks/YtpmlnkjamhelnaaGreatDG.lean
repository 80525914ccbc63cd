/- What the document reads: a list of types. -/
import Derived.Test.YtpmlnkjamhelnaaGreatGM
import Derived.Test.YtpmlnkjamhelnaaGreatORn
namespace Go.Proofs.YtpmlnkjamhelnaaGreat
open Go.RowKit
def FS (w:World)(q g:Nat)(bs:List UInt8)(s:RSt):Prop:=∃ k,RfS w q g bs k s.2∧s.1=bs.drop k
theorem FS.chg {w w':World}{q g:Nat}{bs:List UInt8}{s:RSt}{S:Nat→Prop}(H:FS w q g bs s)(c:Chg w w' S)(h1:¬ S q)(h2:¬ S g):FS w' q g bs s:=by
 obtain ⟨k,h,e⟩:=H
 exact ⟨k,h.chg c h1 h2,e⟩
def OneEndF (r:Value)(q g:Nat)(bs:List UInt8)(st:RSt)(w:World)(x:Ending)(w':World):Prop:=x=.returned r∧FS w' q g bs st∧Chg w w' (fun k=>k=q)
theorem fbyte_s (q g:Nat)(bs:List UInt8)(s:RSt)(w:World)(H:FS w q g bs s):Calls Tryz.prog 38 #[.pointer (some ⟨q,0,none⟩)] w (OneEndF (.int .i64 (gByte s).1) q g bs (gByte s).2 w):=by
 obtain ⟨k,h,e⟩:=H
 refine (fbyte_all q g bs k s.2 w h).mono ?_
 rw [← e]
 rintro _ w' ⟨rfl,h',c⟩
 exact ⟨rfl,⟨_,h',by simp [gByte,rB,e,List.drop_drop]⟩,c⟩
theorem fint_s (q g:Nat)(bs:List UInt8)(s:RSt)(w:World)(H:FS w q g bs s):Calls Tryz.prog 75 #[.pointer (some ⟨q,0,none⟩)] w (OneEndF (.int .i64 (gInt s).1) q g bs (gInt s).2 w):=by
 obtain ⟨k,h,e⟩:=H
 refine (fint_all q g bs k s.2 w h).mono ?_
 rw [← e]
 rintro _ w' ⟨rfl,h',c⟩
 exact ⟨rfl,⟨_,h',by simp [gInt,rB,e,List.drop_drop]⟩,c⟩
theorem ftext_s (q g:Nat)(bs:List UInt8)(s:RSt)(w:World)(H:FS w q g bs s):Calls Tryz.prog 39 #[.pointer (some ⟨q,0,none⟩)] w (OneEndF (.string ⟨(gText s).1.toArray⟩) q g bs (gText s).2 w):=by
 obtain ⟨k,h,e⟩:=H
 refine (ftext_all q g bs k s.2 w h).mono ?_
 rw [← e]
 rintro _ w' ⟨rfl,h',c⟩
 exact ⟨rfl,⟨_,h',by simp [gText,rB,e,List.drop_drop]⟩,c⟩
theorem FS.cell {w:World}{q g:Nat}{bs:List UInt8}{s:RSt}(H:FS w q g bs s):w.cell? ⟨q,2,none⟩=some (.int .i64 s.2)∧q<w.heap.size:=by
 obtain ⟨k,h,e⟩:=H
 obtain ⟨⟨ao,cap,hE,_⟩,_⟩:=h
 exact ⟨(cells3 hE).1.2.2,lt_of_block hE⟩
def ManyEndF (e:TypeId)(size n:Nat)(xs:List Value)(q g:Nat)(bs:List UInt8)(st:RSt)(w:World)(x:Ending)(w':World):Prop:=(∃ v,x=.returned v∧w'.ownsRow w.heap.size e size v n xs)∧FS w' q g bs st∧Chg w w' (fun k=>k=q)
theorem manyf_step4 {w wr w2 w6:World}{q g n base size:Nat}{e:TypeId}{v v':Value}{st:RSt}{xs:List Value}{bs:List UInt8}{o:Obj}(hb:base=w.heap.size)(hq:q<w.heap.size)(hg:g<w.heap.size)(C0:Chg w wr (fun i=>i=q))(hrow:wr.ownsRow base e size v n xs)(c1:Chg wr w2 (fun i=>i=q))(F:FS w2 q g bs st)(hs:Step (w2.alloc o) v w6 v') :
  FS w6 q g bs st∧Chg w w6 (fun i=>i=q):=by
 subst hb
 have hlt:=row_lt4 hrow
 have c2:Chg w w2 (fun i=>i=q):=C0.trans c1 fun _ _ e=>e
 have c3:Chg w (w2.alloc o) (fun i=>i=q):=c2.trans (Chg.alloc w2 o (fun i=>i=q)) fun _ _ e=>e
 refine ⟨(F.chg (Chg.alloc w2 o (fun _=>False)) id id).chg (Chg.of_grown hs.1) (fun e=>?_) (fun e=>?_),c3.trans (Chg.of_grown hs.1) fun i hi e=>?_⟩
 all_goals (have:=(hlt _ e).1;omega)
set_option maxRecDepth 100000 in
set_option maxHeartbeats 1000000 in
theorem rints_any (q g:Nat)(bs:List UInt8)(s:RSt)(w:World)(H:FS w q g bs s)(hg:g<w.heap.size):Calls Tryz.prog 73 #[.pointer (some ⟨q,0,none⟩)] w (ManyEndF 3 1 (gTypes s).1.length (cellsN (gTypes s).1) q g bs (gTypes s).2 w):=by
 have hq:=H.cell.2
 obtain ⟨n,hn,hnb⟩:=gByte_nat s
 have hE:gTypes s=gMany gByte n (gByte s).2:=by unfold gTypes;rw [hnb,Int.toNat_natCast]
 have hFirst:=fbyte_s q g bs s w H
 rw [hnb] at hFirst
 rw [hE]
 generalize (gByte s).2=st at hFirst ⊢
 have fin:∀ wr v L st',gMany gByte n st=(L,st')→wr.ownsRow w.heap.size 3 1 v L.length (cellsN L)→FS wr q g bs st'→Chg w wr (fun k=>k=q)→ManyEndF 3 1 (gMany gByte n st).1.length (cellsN (gMany gByte n st).1) q g bs (gMany gByte n st).2 w (.returned v) wr:=fun wr v L st' e hr HR hc=>by
  rw [e]
  exact ⟨⟨v,rfl,hr⟩,HR,hc⟩
 clear hE hnb
 go_enter Tryz.func73,Tryz.ntmps73
 go_wp2_with (go_at_call 38;refine hFirst.mono ?_;rintro e w1 ⟨rfl,H1,hc1⟩;clear hFirst)
 go_loopw [4,5] (fun v i wr=>∃ (k:Nat) (L:List Int) (s:RSt),k≤n∧i=.int .i64 k∧L.length=k∧Hid (gMany gByte n st=(L++(gMany gByte (n - k) s).1,(gMany gByte (n - k) s).2))∧wr.ownsRow w.heap.size 3 1 v k (cellsN L)∧FS wr q g bs s∧Chg w wr (fun k=>k=q)) (fun _ i _=>n - (intOf i).toNat)
 case atStart=>exact ⟨0,[],st,Nat.zero_le _,rfl,rfl,hid (by simp),World.ownsRow_nil _ _ _ _,H1,hc1⟩
 case round =>
  obtain ⟨k,L,s,hk,rfl,hL,HM,hrow,HR,C1⟩:=hrel
  obtain ⟨ce,hqw⟩:=HR.cell
  by_cases hlt:k<n
  ·by_cases herr:s.2=0
   ·have HM':=hid (gMany_round hlt herr HM.out)
    have hO:=fbyte_s q g bs s wr HR
    rw [herr] at ce
    have HV:=hid (manyN_snoc L (gByte s).1)
    obtain ⟨x,hx⟩:∃ x,x=(gByte s).1:=⟨_,rfl⟩
    obtain ⟨s',hs'⟩:∃ s',s'=(gByte s).2:=⟨_,rfl⟩
    rw [← hx] at hO HV HM'
    rw [← hs'] at hO HM'
    have hsW:=C1.size
    clear HM hx hs'
    generalize cellsN L=xs at hrow HV
    go_wp2_with (first | (go_at_call 38;refine hO.mono ?_;clear hO;rintro e w2 ⟨rfl,H2,hc2⟩;have hs2:=hc2.size) | (at_builtin;refine wpList_appN _ rfl _ _ 28 rfl elemN_int w.heap.size _ k xs rfl (many_row rfl hq hrow hc2 _) _ rfl 1 [Value.int .i64 x] (.inr ⟨⟨w2.heap.size,0,none⟩,1,rfl,cells_new4 w2 [Value.int .i64 x] 3 _ rfl⟩) rfl (by simp [Value.oneCell']) (by unfold maxLen;omega) (by omega) (by simp;omega) ?_;intro v' w6 hr6 hs6))
    obtain ⟨F6,C6⟩:=manyf_step4 rfl hq hg C1 hrow hc2 H2 hs6
    exact ⟨⟨k+1,L++[x],s',by omega,by go_num,by simp [hL],HM',by rw [HV.out];exact hr6,F6,C6⟩,by simp [intOf];omega⟩
   ·have hne:(s.2 == 0)=false:=by simp [herr]
    have hE:=gMany_end (.inr herr) HM.out
    have hF:=fin wr _ L s hE (by rw [hL];exact hrow) HR C1
    clear HM fin hE
    generalize s.2=er at ce hne
    go_wp2_with fail
    go_ret
    exact hF
  ·obtain rfl:k=n:=by omega
   have hE:=gMany_end (.inl rfl) HM.out
   have hF:=fin wr _ L s hE (by rw [hL];exact hrow) HR C1
   clear HM fin hE
   go_wp2_with fail
   go_ret
   exact hF
end Go.Proofs.YtpmlnkjamhelnaaGreat
