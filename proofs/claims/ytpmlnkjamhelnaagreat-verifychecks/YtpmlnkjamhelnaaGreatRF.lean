/- What the document's own Reader does: NewReader, Left, has, Byte, Int, Text and Done. What the document's own Reader does where it reads: Byte, Int and Text. -/
import Derived.Test.YtpmlnkjamhelnaaGreatWI
import Derived.Test.YtpmlnkjamhelnaaGreatPlain
namespace Go.Proofs.YtpmlnkjamhelnaaGreat
open Go.RowKit
theorem cells3 {w:World}{b:Nat}{x y z:Value}{t:TypeId}(h:w.heap[b]?=some (.cells #[x,y,z] t (0,0))):(w.cell? ⟨b,0,none⟩=some x∧w.cell? ⟨b,1,none⟩=some y∧w.cell? ⟨b,2,none⟩=some z)∧w.frozen? ⟨b,0,none⟩=false∧w.frozen? ⟨b,1,none⟩=false∧w.frozen? ⟨b,2,none⟩=false:=by
 simp [World.cell?,World.frozen?,h]
theorem set3_1 {w:World}{b:Nat}{x y z u:Value}{t:TypeId}(h:w.heap[b]?=some (.cells #[x,y,z] t (0,0))):(w.setCell ⟨b,1,none⟩ u).heap[b]?=some (.cells #[x,u,z] t (0,0)):=by
 have hlt:=lt_of_block h
 have h':w.heap[b]=.cells #[x,y,z] t (0,0):=by simpa [Array.getElem?_eq_getElem hlt] using h
 show (w.heap.modify b _)[b]?=_
 rw [Array.getElem?_eq_getElem (by simpa using hlt),Array.getElem_modify_self,h']
 rfl
theorem set3_2 {w:World}{b:Nat}{x y z u:Value}{t:TypeId}(h:w.heap[b]?=some (.cells #[x,y,z] t (0,0))):(w.setCell ⟨b,2,none⟩ u).heap[b]?=some (.cells #[x,y,u] t (0,0)):=by
 have hlt:=lt_of_block h
 have h':w.heap[b]=.cells #[x,y,z] t (0,0):=by simpa [Array.getElem?_eq_getElem hlt] using h
 show (w.heap.modify b _)[b]?=_
 rw [Array.getElem?_eq_getElem (by simpa using hlt),Array.getElem_modify_self,h']
 rfl
def RfE (w:World)(q:Nat)(v:Value)(k:Nat)(err:Int):Prop:=w.heap[q]?=some (.cells #[v,.int .i64 (k:Int),.int .i64 err] 86 (0,0))
structure RfS (w:World)(q g:Nat)(bs:List UInt8)(k:Nat)(err:Int):Prop where
 st:∃ ao cap,RfE w q (.slice ao bs.length cap) k err∧BsAt w g ao bs∧bs.length≤cap∧cap≤maxLen
 gq:g≠q
 le:k≤bs.length
 mx:bs.length≤140737488355328
theorem RfS.chg {w w':World}{q g:Nat}{bs:List UInt8}{k:Nat}{err:Int}{S:Nat→Prop}(H:RfS w q g bs k err)(c:Chg w w' S)(h1:¬ S q)(h2:¬ S g):RfS w' q g bs k err:=by
 obtain ⟨⟨ao,cap,hE,hB,hc,hm⟩,hg,hk,hx⟩:=H
 exact ⟨⟨ao,cap,by unfold RfE at hE ⊢;rw [c.block q (lt_of_block hE) h1];exact hE,hB.chg c h2,hc,hm⟩,hg,hk,hx⟩
theorem RfS.setAt {w:World}{q g:Nat}{bs:List UInt8}{k k':Nat}{err:Int}{N:Int}(H:RfS w q g bs k err)(hN:N=(k':Nat))(hk:k'≤bs.length):RfS (w.setCell ⟨q,1,none⟩ (.int .i64 N)) q g bs k' err:=by
 obtain ⟨⟨ao,cap,hE,hB,hc,hm⟩,hg,_,hx⟩:=H
 subst hN
 exact ⟨⟨ao,cap,set3_1 hE,hB.chg (Chg.setCell w ⟨q,1,none⟩ _) hg,hc,hm⟩,hg,hk,hx⟩
theorem RfS.setErr {w:World}{q g:Nat}{bs:List UInt8}{k:Nat}{err e:Int}(H:RfS w q g bs k err):RfS (w.setCell ⟨q,2,none⟩ (.int .i64 e)) q g bs k e:=by
 obtain ⟨⟨ao,cap,hE,hB,hc,hm⟩,hg,hk,hx⟩:=H
 exact ⟨⟨ao,cap,set3_2 hE,hB.chg (Chg.setCell w ⟨q,2,none⟩ _) hg,hc,hm⟩,hg,hk,hx⟩
theorem RfS.failed {w:World}{q g:Nat}{bs:List UInt8}{k:Nat}(H:RfS w q g bs k 0):RfS (w.setCell ⟨q,2,none⟩ (.int .i64 20)) q g bs k 20∧Chg w (w.setCell ⟨q,2,none⟩ (.int .i64 20)) (fun i=>i=q) :=
 ⟨H.setErr,Chg.setCell w ⟨q,2,none⟩ _⟩
set_option maxHeartbeats 400000 in
theorem fnew_any (ao:Option Addr)(len cap:Nat)(bs:List UInt8)(w:World)(hl:bs.length=len)(hm:len≤140737488351232)(hb:Bs w ao bs) :
  Calls Tryz.prog 37 #[.slice ao len cap] w fun e w'=>∃ q g,e=.returned (.pointer (some ⟨q,0,none⟩))∧w.heap.size≤q∧w.heap.size≤g∧RfS w' q g bs 0 0∧Below w.heap.size w w':=by
 have hb1:Below w.heap.size w (w.alloc (.cells #[] 5)):=(Below.refl _ _).alloc (Nat.le_refl _) _
 have hO1:OwnB (w.alloc (.cells #[] 5)) w.heap.size (.slice (some ⟨w.heap.size,0,none⟩) 0 0) []:=World.ownsRow_lit w #[] 0 (Nat.le_refl _) (Nat.zero_le _) rfl
 have hS:=src_bs (P:=Tryz.prog) _ Tryz.underlying22 (hb.keep (below_keep hb1)) cap
 rw [hl] at hS
 go_enter Tryz.func37,Tryz.ntmps37
 go_wp2_with (at_builtin;go_loud (refine wpList_app _ rfl (.tmp 3) (.tmp 4) _ _ rfl elem_u8 w.heap.size _ _ rfl hO1 _ rfl (bs.map bv) hS (by simp only [List.length_map,hl];unfold maxLen;simp;omega) (by simp only [List.length_map,hl];simp;omega) (by simp) ?_))
 intro v2 w2 ho2 hs2
 have hO2:OwnB w2 w.heap.size v2 bs:=by simpa [OwnB] using ho2
 have hb2:Below w.heap.size w w2:=hb1.trans (hs2.below (by simp) (fun k h=>(hO1.lt k h).1))
 clear ho2 hs2 hO1 hb1 hS
 obtain ⟨ao2,cap2,rfl,hlc,hcm,hB2,hob,_⟩:=Own.bs hO2
 have hbz:Below w.heap.size w (w2.alloc (.cells #[.slice ao2 bs.length cap2,.int .i64 0,.int .i64 0] 86)):=hb2.alloc hb2.size _
 have hR:∃ g,w.heap.size≤g∧RfS (w2.alloc (.cells #[.slice ao2 bs.length cap2,.int .i64 0,.int .i64 0] 86)) w2.heap.size g bs 0 0:=by
  rcases hB2 with h0 | ⟨b,off,rfl,hcell⟩
  ·exact ⟨w2.heap.size+1,by have:=hb2.size;omega,⟨ao2,cap2,heap_alloc_new w2 _,.inl h0,hlc,hcm⟩,by omega,Nat.zero_le _,by omega⟩
  ·have hlt:=hO2.lt b (by rw [hob];rfl)
   exact ⟨b,hlt.1,⟨_,cap2,heap_alloc_new w2 _,.inr ⟨off,rfl,fun j hj=>alloc_keep _ _ _ _ (hcell j hj)⟩,hlc,hcm⟩,by omega,Nat.zero_le _,by omega⟩
 obtain ⟨g,hg1,hg2⟩:=hR
 have hsz:=hb2.size
 clear hB2 hO2 hob
 go_wp2
 go_ret
 exact ⟨_,g,rfl,hsz,hg1,by rw [← hl];exact hg2,by rw [← hl];exact hbz⟩
set_option maxHeartbeats 400000 in
theorem fleft_q (q g:Nat)(bs:List UInt8)(k:Nat)(err:Int)(w:World)(H:RfS w q g bs k err) :
  Calls Tryz.prog 76 #[.pointer (some ⟨q,0,none⟩)] w fun e w'=>e=.returned (.int .i64 (bs.length - k:Nat))∧∃ m,w'=w.drewN m:=by
 obtain ⟨⟨ao,cap,hE,hB,hc,hm⟩,hg,hk,hx⟩:=H
 obtain ⟨⟨c0,c1,c2⟩,f0,f1,f2⟩:=cells3 hE
 clear hE hB
 go_enter Tryz.func76,Tryz.ntmps76
 go_wp2
 go_quiet (fail)
 go_wp2
 go_ret
 exact ⟨ret_int (by omega),_,rfl⟩
theorem fleft_any (q g:Nat)(bs:List UInt8)(k:Nat)(err:Int)(w:World)(H:RfS w q g bs k err) :
  Calls Tryz.prog 76 #[.pointer (some ⟨q,0,none⟩)] w fun e w'=>e=.returned (.int .i64 (bs.length - k:Nat))∧Chg w w' (fun _=>False):=by
 refine (fleft_q q g bs k err w H).mono ?_
 rintro e w' ⟨rfl,m,rfl⟩
 exact ⟨rfl,Chg.drewN _ _ _⟩
set_option maxHeartbeats 400000 in
theorem fdone_q (q g:Nat)(bs:List UInt8)(k:Nat)(err:Int)(w:World)(H:RfS w q g bs k err) :
  Calls Tryz.prog 41 #[.pointer (some ⟨q,0,none⟩)] w fun e w'=>e=.returned (.int .i64 (doneOf (bs.drop k) err))∧∃ m,w'=w.drewN m:=by
 have H0:=H
 obtain ⟨⟨ao,cap,hE,hB,hc,hm⟩,hg,hk,hx⟩:=H
 obtain ⟨⟨c0,c1,c2⟩,f0,f1,f2⟩:=cells3 hE
 clear hE hB
 by_cases he:err=0
 ·by_cases hl:0<bs.length - k
  ·have HD:Hid (doneOf (bs.drop k) err=21):=hid (by unfold doneOf;rw [if_neg (by simp [he]),if_pos (by rw [List.length_drop];exact hl)])
   have hb:(err == 0)=true:=by simp [he]
   go_enter Tryz.func41,Tryz.ntmps41
   go_wp2_with (go_at_call 76;refine (fleft_q q g bs k err _ H0).mono ?_;rintro e w1 ⟨rfl,m,rfl⟩)
   go_ret
   exact ⟨ret_int (by rw [HD.out]),m,rfl⟩
  ·have HD:Hid (doneOf (bs.drop k) err=err):=hid (by unfold doneOf;rw [if_neg (by simp [he]),if_neg (by rw [List.length_drop];exact hl),he])
   have hb:(err == 0)=true:=by simp [he]
   go_enter Tryz.func41,Tryz.ntmps41
   go_wp2_with (go_at_call 76;refine (fleft_q q g bs k err _ H0).mono ?_;rintro e w1 ⟨rfl,m,rfl⟩)
   go_ret
   exact ⟨ret_int (by rw [HD.out];first | rfl | exact he.symm),m,rfl⟩
 ·have HD:Hid (doneOf (bs.drop k) err=err):=hid (by unfold doneOf;rw [if_pos he])
  have hb:(err == 0)=false:=by simp [he]
  go_enter Tryz.func41,Tryz.ntmps41
  go_wp2
  go_ret
  exact ⟨ret_int (by rw [HD.out]),0,rfl⟩
set_option maxHeartbeats 400000 in
theorem has_bad (q g:Nat)(bs:List UInt8)(k:Nat)(err n:Int)(w:World)(H:RfS w q g bs k err)(he:err≠0) :
  Calls Tryz.prog 72 #[.pointer (some ⟨q,0,none⟩),.int .i64 n] w fun e w'=>e=.returned (.bool false)∧w'=w:=by
 obtain ⟨⟨ao,cap,hE,hB,hc,hm⟩,hg,hk,hx⟩:=H
 obtain ⟨⟨c0,c1,c2⟩,f0,f1,f2⟩:=cells3 hE
 clear hE hB
 have hb:(err != 0)=true:=by simp [he]
 go_enter Tryz.func72,Tryz.ntmps72
 go_wp2
 go_ret
 exact ⟨rfl,rfl⟩
set_option maxHeartbeats 400000 in
theorem has_end (q g:Nat)(bs:List UInt8)(k:Nat)(n:Int)(w:World)(H:RfS w q g bs k 0)(hn:((bs.length - k:Nat):Int)<n) :
  Calls Tryz.prog 72 #[.pointer (some ⟨q,0,none⟩),.int .i64 n] w fun e w'=>e=.returned (.bool false)∧RfS w' q g bs k 20∧Chg w w' (fun i=>i=q):=by
 have H0:=H
 obtain ⟨⟨ao,cap,hE,hB,hc,hm⟩,hg,hk,hx⟩:=H
 obtain ⟨⟨c0,c1,c2⟩,f0,f1,f2⟩:=cells3 hE
 clear hE hB
 go_enter Tryz.func72,Tryz.ntmps72
 go_wp2_with (go_at_call 76;refine (fleft_any q g bs k 0 _ H0).mono ?_;rintro e w1 ⟨rfl,hc1⟩;have H1:=H0.chg hc1 id id;have HE1:=H1.failed;obtain ⟨⟨ao1,cap1,hE1,_,_,_⟩,_,_,_⟩:=H1;obtain ⟨⟨d0,d1,d2⟩,g0,g1,g2⟩:=cells3 hE1;clear hE1)
 go_ret
 exact ⟨rfl,HE1.1,(hc1.mono (fun _ _ e=>e.elim)).trans HE1.2 (fun _ _ e=>e)⟩
set_option maxHeartbeats 400000 in
theorem has_ok (q g:Nat)(bs:List UInt8)(k:Nat)(n:Int)(w:World)(H:RfS w q g bs k 0)(hn:¬ ((bs.length - k:Nat):Int)<n) :
  Calls Tryz.prog 72 #[.pointer (some ⟨q,0,none⟩),.int .i64 n] w fun e w'=>e=.returned (.bool true)∧Chg w w' (fun _=>False):=by
 have H0:=H
 obtain ⟨⟨ao,cap,hE,hB,hc,hm⟩,hg,hk,hx⟩:=H
 obtain ⟨⟨c0,c1,c2⟩,f0,f1,f2⟩:=cells3 hE
 clear hE hB
 go_enter Tryz.func72,Tryz.ntmps72
 go_wp2_with (go_at_call 76;refine (fleft_any q g bs k 0 _ H0).mono ?_;rintro e w1 ⟨rfl,hc1⟩;have H1:=H0.chg hc1 id id;have HE1:=H1.failed;obtain ⟨⟨ao1,cap1,hE1,_,_,_⟩,_,_,_⟩:=H1;obtain ⟨⟨d0,d1,d2⟩,g0,g1,g2⟩:=cells3 hE1;clear hE1)
 go_ret
 exact ⟨rfl,hc1⟩
set_option maxHeartbeats 400000 in
theorem fbyte_bad (q g:Nat)(bs:List UInt8)(k:Nat)(err:Int)(w:World)(H:RfS w q g bs k err)(he:err≠0) :
  Calls Tryz.prog 38 #[.pointer (some ⟨q,0,none⟩)] w fun e w'=>e=.returned (.int .i64 0)∧w'=w:=by
 go_enter Tryz.func38,Tryz.ntmps38
 go_wp2_with (go_at_call 72;refine (has_bad q g bs k err _ _ H he).mono ?_;rintro e w' ⟨rfl,hw⟩;subst hw)
 go_ret
 exact ⟨rfl,rfl⟩
set_option maxHeartbeats 400000 in
theorem fint_bad (q g:Nat)(bs:List UInt8)(k:Nat)(err:Int)(w:World)(H:RfS w q g bs k err)(he:err≠0) :
  Calls Tryz.prog 75 #[.pointer (some ⟨q,0,none⟩)] w fun e w'=>e=.returned (.int .i64 0)∧w'=w:=by
 go_enter Tryz.func75,Tryz.ntmps75
 go_wp2_with (go_at_call 72;refine (has_bad q g bs k err _ _ H he).mono ?_;rintro e w' ⟨rfl,hw⟩;subst hw)
 go_ret
 exact ⟨rfl,rfl⟩
set_option maxHeartbeats 400000 in
theorem ftext_bad (q g:Nat)(bs:List UInt8)(k:Nat)(err:Int)(w:World)(H:RfS w q g bs k err)(he:err≠0) :
  Calls Tryz.prog 39 #[.pointer (some ⟨q,0,none⟩)] w fun e w'=>e=.returned (.string ⟨#[]⟩)∧w'=w:=by
 go_enter Tryz.func39,Tryz.ntmps39
 go_wp2_with (go_at_call 72;refine (has_bad q g bs k err _ _ H he).mono ?_;rintro e w' ⟨rfl,hw⟩;subst hw)
 go_ret
 exact ⟨rfl,rfl⟩
set_option maxHeartbeats 400000 in
theorem fbyte_end (q g:Nat)(bs:List UInt8)(k:Nat)(w:World)(H:RfS w q g bs k 0)(hl:bs.length - k<1) :
  Calls Tryz.prog 38 #[.pointer (some ⟨q,0,none⟩)] w fun e w'=>e=.returned (.int .i64 0)∧RfS w' q g bs k 20∧Chg w w' (fun i=>i=q):=by
 go_enter Tryz.func38,Tryz.ntmps38
 go_wp2_with (go_at_call 72;refine (has_end q g bs k _ _ H (by omega)).mono ?_;rintro e w1 ⟨rfl,hR1,hc1⟩)
 go_ret
 exact ⟨rfl,hR1,hc1⟩
set_option maxHeartbeats 400000 in
theorem fint_end (q g:Nat)(bs:List UInt8)(k:Nat)(w:World)(H:RfS w q g bs k 0)(hl:bs.length - k<8) :
  Calls Tryz.prog 75 #[.pointer (some ⟨q,0,none⟩)] w fun e w'=>e=.returned (.int .i64 0)∧RfS w' q g bs k 20∧Chg w w' (fun i=>i=q):=by
 go_enter Tryz.func75,Tryz.ntmps75
 go_wp2_with (go_at_call 72;refine (has_end q g bs k _ _ H (by omega)).mono ?_;rintro e w1 ⟨rfl,hR1,hc1⟩)
 go_ret
 exact ⟨rfl,hR1,hc1⟩
theorem RfS.cellAt {w:World}{q g:Nat}{bs:List UInt8}{k:Nat}{err:Int}(H:RfS w q g bs k err)(h0:0<bs.length):∃ off cap,(w.cell? ⟨q,0,none⟩=some (.slice (some ⟨g,off,none⟩) bs.length cap)∧bs.length≤cap∧cap≤maxLen)∧∀ j (h:j<bs.length),w.cell? ⟨g,off+j,none⟩=some (.int .u8 (bs[j].toNat:Int)):=by
 obtain ⟨⟨ao,cap,hE,hB,hc,hm⟩,hg,hk,hx⟩:=H
 rcases hB with hB | ⟨off,rfl,hB⟩
 ·subst hB;simp at h0
 ·exact ⟨off,cap,⟨(cells3 hE).1.1,hc,hm⟩,hB⟩
theorem RfS.at1 {w:World}{q g:Nat}{bs:List UInt8}{k:Nat}{err:Int}(H:RfS w q g bs k err):w.cell? ⟨q,1,none⟩=some (.int .i64 (k:Int))∧w.frozen? ⟨q,1,none⟩=false∧w.cell? ⟨q,2,none⟩=some (.int .i64 err):=by
 obtain ⟨⟨ao,cap,hE,hB,hc,hm⟩,hg,hk,hx⟩:=H
 exact ⟨(cells3 hE).1.2.1,(cells3 hE).2.2.1,(cells3 hE).1.2.2⟩
set_option maxHeartbeats 400000 in
theorem fbyte_ok (q g:Nat)(bs:List UInt8)(k:Nat)(w:World)(H:RfS w q g bs k 0)(hl:k<bs.length) :
  Calls Tryz.prog 38 #[.pointer (some ⟨q,0,none⟩)] w fun e w'=>e=.returned (.int .i64 ((bs[k]'hl).toNat:Nat))∧RfS w' q g bs (k+1) 0∧Chg w w' (fun i=>i=q):=by
 go_enter Tryz.func38,Tryz.ntmps38
 go_wp2_with fail
 refine (has_ok q g bs k _ w H (by omega)).mono ?_
 rintro e w1 ⟨rfl,hc1⟩
 have H1:=H.chg hc1 id id
 have hx:=H1.mx
 obtain ⟨c1,f1,c2⟩:=H1.at1
 have HR:=H1.setAt (k':=k+1) (N:=(k:Int)+1) (by omega) (by omega)
 have hc2:Chg w (w1.setCell ⟨q,1,none⟩ (.int .i64 ((k:Int)+1))) (fun i=>i=q):=(hc1.mono (fun _ _ e=>e.elim)).trans (Chg.setCell w1 ⟨q,1,none⟩ _) (fun _ _ e=>e)
 have hb:=(bs[k]'hl).toNat_lt
 clear H1 H
 go_wp2
 generalize w1.setCell ⟨q,1,none⟩ (.int .i64 ((k:Int)+1))=w2 at HR hc2
 clear c1 f1 c2 hc1
 obtain ⟨off,cap,⟨c0,hlc,hcm⟩,hcell⟩:=HR.cellAt (by omega)
 obtain ⟨c1,f1,c2⟩:=HR.at1
 rw [show (((k+1:Nat):Int))=(k:Int)+1 by omega] at c1
 have ck:=hcell k hl
 generalize hxx:(bs[k]'hl).toNat=x at ck hb
 have HX:Hid ((bs[k]'hl).toNat=x):=hxx
 clear hcell hxx
 go_quiet (fail)
 go_wp2
 go_ret
 exact ⟨ret_int (by rw [HX.out]),HR.chg (Chg.drewN _ _ (fun _=>False)) id id,hc2.trans (Chg.drewN _ _ _) (fun _ _ e=>e)⟩
set_option maxHeartbeats 1000000 in
theorem fint_ok (q g:Nat)(bs:List UInt8)(k:Nat)(w:World)(H:RfS w q g bs k 0)(hl:k+8≤bs.length) :
  Calls Tryz.prog 75 #[.pointer (some ⟨q,0,none⟩)] w fun e w'=>e=.returned (.int .i64 (toInt (num ((bs.drop k).take 8))))∧RfS w' q g bs (k+8) 0∧Chg w w' (fun i=>i=q):=by
 go_enter Tryz.func75,Tryz.ntmps75
 go_wp2_with fail
 refine (has_ok q g bs k _ w H (by omega)).mono ?_
 rintro e w1 ⟨rfl,hc1⟩
 have H1:=H.chg hc1 id id
 have hx:=H1.mx
 clear H
 go_wp2
 go_loopw [3,4] (fun n i wr=>∃ j:Nat,j≤8∧i=.int .i64 j∧n=.int .u64 (num ((bs.drop k).take j):Nat)∧RfS wr q g bs k 0∧Chg w wr (fun _=>False)) (fun _ i _=>8 - (intOf i).toNat)
 case atStart=>exact ⟨0,Nat.zero_le _,rfl,rfl,H1,hc1⟩
 case round =>
  clear H1 hc1
  obtain ⟨j,hj,rfl,rfl,H1,hc1⟩:=hrel
  by_cases hlt:j<8
  ·obtain ⟨off,cap,⟨c0,hlc,hcm⟩,hcell⟩:=H1.cellAt (by omega)
   obtain ⟨c1,f1,c2⟩:=H1.at1
   have ck:=hcell (k+j) (by omega)
   have hS:=num_snoc (bs.drop k) j (by rw [List.length_drop];omega)
   rw [List.getElem_drop] at hS
   have hN:=num_lt ((bs.drop k).take j)
   generalize num ((bs.drop k).take j)=n at hS hN
   unfold numStep at hS
   have hb:=(bs[k+j]'(by omega)).toNat_lt
   generalize (bs[k+j]'(by omega)).toNat=x at ck hb hS
   have HS:Hid (num ((bs.drop k).take (j+1))=(n*256+x) % 18446744073709551616):=hS
   clear hcell hS
   go_wp2
   go_quiet (fail)
   go_wp2
   go_roundw
   case rel=>exact ⟨j+1,by omega,by go_num,by rw [HS.out,IntKind.wrap_u64,IntKind.wrap_u64];congr 1;omega,H1.chg (Chg.drewN _ _ (fun _=>False)) id id,hc1.trans (Chg.drewN _ _ _) (fun _ _ e=>e)⟩
   case measure=>simp [intOf];omega
  ·obtain rfl:j=8:=by omega
   have HR:=H1.setAt (k':=k+8) (N:=(k:Int)+8) (by omega) (by omega)
   obtain ⟨c1,f1,c2⟩:=H1.at1
   have hN:=num_lt ((bs.drop k).take 8)
   have HN:Hid (wrap64 ((num ((bs.drop k).take 8):Nat):Int)=toInt (num ((bs.drop k).take 8))):=hid (wrap_toInt _ (num_lt _))
   have hc2:∀ v,Chg w (wr.setCell ⟨q,1,none⟩ v) (fun i=>i=q):=fun v=>(hc1.mono (fun _ _ e=>e.elim)).trans (Chg.setCell wr ⟨q,1,none⟩ _) (fun _ _ e=>e)
   go_wp2
   go_ret
   exact ⟨ret_int HN.out,HR,hc2 _⟩
theorem tl_at (bs:List UInt8)(k:Nat)(h:k+2≤bs.length):tlOf (bs.drop k)=256*(bs[k]'(by omega)).toNat+(bs[k+1]'(by omega)).toNat:=by
 unfold tlOf
 rw [if_neg (by rw [List.length_drop];omega),List.drop_eq_getElem_cons (by omega),List.drop_eq_getElem_cons (by omega),List.take_succ_cons,List.take_succ_cons,List.take_zero,num_two]
 omega
set_option maxHeartbeats 1000000 in
theorem ftext_end (q g:Nat)(bs:List UInt8)(k:Nat)(w:World)(H:RfS w q g bs k 0)(hl:bs.length - k<2+tlOf (bs.drop k)) :
  Calls Tryz.prog 39 #[.pointer (some ⟨q,0,none⟩)] w fun e w'=>e=.returned (.string ⟨#[]⟩)∧RfS w' q g bs k 20∧Chg w w' (fun i=>i=q):=by
 have hx:=H.mx
 have hk:=H.le
 by_cases h2:bs.length - k<2
 ·clear hl
  go_enter Tryz.func39,Tryz.ntmps39
  go_wp2_with (go_at_call 72;refine (has_end q g bs k _ _ H (by omega)).mono ?_;rintro e w1 ⟨rfl,hR1,hc1⟩)
  go_ret
  exact ⟨rfl,hR1,hc1⟩
 ·rw [tl_at bs k (by omega)] at hl
  go_enter Tryz.func39,Tryz.ntmps39
  go_wp2_with fail
  refine (has_ok q g bs k _ w H (by omega)).mono ?_
  rintro e w1 ⟨rfl,hc1⟩
  have H1:=H.chg hc1 id id
  obtain ⟨off,cap,⟨c0,hlc,hcm⟩,hcell⟩:=H1.cellAt (by omega)
  obtain ⟨c1,f1,c2⟩:=H1.at1
  have ck:=hcell k (by omega)
  have ck1:=hcell (k+1) (by omega)
  have hb:=(bs[k]'(by omega)).toNat_lt
  have hb1:=(bs[k+1]'(by omega)).toNat_lt
  generalize (bs[k]'(by omega)).toNat=x at ck hb hl
  generalize (bs[k+1]'(by omega)).toNat=y at ck1 hb1 hl
  clear hcell H
  go_wp2
  go_quiet (fail)
  go_wp2_with fail
  refine (has_end q g bs k _ _ (H1.chg (Chg.drewN _ _ (fun _=>False)) id id) (by omega)).mono ?_
  rintro e w2 ⟨rfl,hR2,hc2⟩
  have hc3:=((hc1.trans (Chg.drewN _ _ _) (fun _ _ e=>e)).mono (fun _ _ e=>e.elim)).trans hc2 (fun _ _ e=>e)
  go_wp2
  go_ret
  exact ⟨rfl,hR2,hc3⟩
set_option maxHeartbeats 1000000 in
theorem ftext_ok (q g:Nat)(bs:List UInt8)(k:Nat)(w:World)(H:RfS w q g bs k 0)(hl:2+tlOf (bs.drop k)≤bs.length - k) :
  Calls Tryz.prog 39 #[.pointer (some ⟨q,0,none⟩)] w fun e w'=>e=.returned (.string ⟨(((bs.drop k).drop 2).take (tlOf (bs.drop k))).toArray⟩)∧RfS w' q g bs (k+(2+tlOf (bs.drop k))) 0∧Chg w w' (fun i=>i=q):=by
 have hx:=H.mx
 have hk:=H.le
 have hka:k<bs.length:=by omega
 have hkb:k+1<bs.length:=by omega
 have HT:Hid (tlOf (bs.drop k)=256*(bs[k]'hka).toNat+(bs[k+1]'hkb).toNat):=hid (tl_at bs k (by omega))
 have hbT:=(bs[k]'hka).toNat_lt
 have hbT1:=(bs[k+1]'hkb).toNat_lt
 generalize hTT:tlOf (bs.drop k)=T at hl HT ⊢
 clear hTT
 go_enter Tryz.func39,Tryz.ntmps39
 go_wp2_with fail
 refine (has_ok q g bs k _ w H (by omega)).mono ?_
 rintro e w1 ⟨rfl,hc1⟩
 have H1:=H.chg hc1 id id
 obtain ⟨off,cap,⟨c0,hlc,hcm⟩,hcell⟩:=H1.cellAt (by omega)
 obtain ⟨c1,f1,c2⟩:=H1.at1
 have ck:=hcell k (by omega)
 have ck1:=hcell (k+1) (by omega)
 generalize (bs[k]'(by omega)).toNat=x at ck hbT HT
 generalize (bs[k+1]'(by omega)).toNat=y at ck1 hbT1 HT
 clear hcell H
 go_wp2
 go_quiet (fail)
 have eT:256*(x:Int)+(y:Int)=(T:Int):=by have:=HT.out;omega
 go_wp2_with fail
 rw [eT]
 clear eT HT hbT hbT1
 refine (has_ok q g bs k _ _ (H1.chg (Chg.drewN _ _ (fun _=>False)) id id) (by omega)).mono ?_
 rintro e w2 ⟨rfl,hc2⟩
 have hc3:=(hc1.trans (Chg.drewN _ _ _) (fun _ _ e=>e)).trans hc2 (fun _ _ e=>e)
 have H2:=H1.chg ((Chg.drewN _ _ (fun _=>False)).trans hc2 (fun _ _ e=>e)) id id
 clear H1 hc1 hc2 c0 c1 f1 c2 ck ck1
 obtain ⟨c1,f1,c2⟩:=H2.at1
 have HR:=H2.setAt (k':=k+(2+T)) (N:=(k:Int)+2+(T:Int)) (by omega) (by omega)
 have hc4:Chg w (w2.setCell ⟨q,1,none⟩ (.int .i64 ((k:Int)+2+(T:Int)))) (fun i=>i=q):=(hc3.mono (fun _ _ e=>e.elim)).trans (Chg.setCell w2 ⟨q,1,none⟩ _) (fun _ _ e=>e)
 go_wp2
 generalize w2.setCell ⟨q,1,none⟩ (.int .i64 ((k:Int)+2+(T:Int)))=w3 at HR hc4
 clear c1 f1 c2 hc3 H2 hlc hcm
 obtain ⟨off,cap,⟨c0,hlc,hcm⟩,hcell⟩:=HR.cellAt (by omega)
 obtain ⟨c1,f1,c2⟩:=HR.at1
 rw [show (((k+(2+T):Nat):Int))=(k:Int)+2+(T:Int) by omega] at c1
 generalize hs:((bs.drop k).drop 2).take T=s
 have hls:s.length=T:=by rw [← hs];simp;omega
 have hB:BsAt w3 g (some ⟨g,off,none⟩) bs:=.inr ⟨off,rfl,hcell⟩
 have hB2:=(hB.from (k+2) cap hlc).take T
 rw [← List.drop_drop,hs] at hB2
 have Hs:Hid (((bs.drop k).drop 2).take T=s):=hs
 clear hs hcell hB
 by_cases hcap:cap=k+2
 ·have s1:∀ nq c,(convert 22 9 (.slice (some ⟨g,off,none⟩) T c)).run Tryz.prog (w3.drewN nq)=.ok (.string ⟨s.toArray⟩) (w3.drewN nq):=fun nq c=>by
   rw [if_pos hcap] at hB2
   rw [← hls];exact run_str (hB2.bs.keep (fun a v h=>by simpa using h)) c
  have i1:(0:Int)≤(k:Int)+2:=by omega
  have i2:(k:Int)+2+(T:Int)≤(cap:Int):=by omega
  clear hB2
  go_quiet (fail)
  go_wp2
  go_ret
  exact ⟨by rw [Hs.out];rfl,HR.chg (Chg.drewN _ _ (fun _=>False)) id id,hc4.trans (Chg.drewN _ _ _) (fun _ _ e=>e)⟩
 ·have s1:∀ nq c,(convert 22 9 (.slice (some ⟨g,off+(k+2),none⟩) T c)).run Tryz.prog (w3.drewN nq)=.ok (.string ⟨s.toArray⟩) (w3.drewN nq):=fun nq c=>by
   rw [if_neg hcap] at hB2
   rw [← hls];exact run_str (hB2.bs.keep (fun a v h=>by simpa using h)) c
  have i1:(0:Int)≤(k:Int)+2:=by omega
  have i2:(k:Int)+2+(T:Int)≤(cap:Int):=by omega
  clear hB2
  go_quiet (fail)
  go_wp2
  go_ret
  exact ⟨by rw [Hs.out];rfl,HR.chg (Chg.drewN _ _ (fun _=>False)) id id,hc4.trans (Chg.drewN _ _ _) (fun _ _ e=>e)⟩
def errOf (bs:List UInt8)(err:Int)(nd:Nat):Int:=if err≠0 then err else if bs.length<nd then 20 else 0
def cutOf (bs:List UInt8)(err:Int)(nd:Nat):Nat:=if err≠0 then 0 else if bs.length<nd then 0 else nd
def ansByte (bs:List UInt8)(err:Int):Int:=if err≠0 then 0 else if bs.length<1 then 0 else ((bs.getD 0 0).toNat:Nat)
def ansInt (bs:List UInt8)(err:Int):Int:=if err≠0 then 0 else if bs.length<8 then 0 else toInt (num (bs.take 8))
def ansText (bs:List UInt8)(err:Int):List UInt8:=if err≠0 then [] else if bs.length<2+tlOf bs then [] else (bs.drop 2).take (tlOf bs)
theorem of_bad {bs:List UInt8}{err:Int}(nd:Nat)(h:err≠0):errOf bs err nd=err∧cutOf bs err nd=0:=by
 unfold errOf cutOf;rw [if_pos h,if_pos h];exact ⟨rfl,rfl⟩
theorem of_end {bs:List UInt8}{nd:Nat}(h:bs.length<nd):errOf bs 0 nd=20∧cutOf bs 0 nd=0:=by
 unfold errOf cutOf;rw [if_neg (by simp),if_pos h,if_neg (by simp),if_pos h];exact ⟨rfl,rfl⟩
theorem of_ok {bs:List UInt8}{nd:Nat}(h:¬ bs.length<nd):errOf bs 0 nd=0∧cutOf bs 0 nd=nd:=by
 unfold errOf cutOf;rw [if_neg (by simp),if_neg h,if_neg (by simp),if_neg h];exact ⟨rfl,rfl⟩
theorem rbyte_all (p h g:Nat)(bs:List UInt8)(err:Int)(w:World)(H:RdS w p h g bs err) :
  Calls Tryz.prog 66 #[.pointer (some ⟨p,0,none⟩)] w fun e w'=>e=.returned (.int .i64 (ansByte bs err))∧RdS w' p h g (bs.drop (cutOf bs err 1)) (errOf bs err 1)∧Chg w w' (fun k=>k=h):=by
 unfold ansByte
 by_cases he:err=0
 ·subst he
  rw [if_neg (by simp)]
  by_cases hl:bs.length<1
  ·obtain ⟨e1,e2⟩:=of_end hl
   rw [e1,e2,if_pos hl]
   exact rbyte_end p h g bs w H hl
  ·obtain ⟨e1,e2⟩:=of_ok hl
   rw [e1,e2,if_neg hl,List.getD_eq_getElem?_getD,List.getElem?_eq_getElem (by omega),Option.getD_some]
   exact rbyte_ok p h g bs w H (by omega)
 ·obtain ⟨e1,e2⟩:=of_bad (bs:=bs) 1 he
  rw [e1,e2,if_pos he]
  refine (rbyte_bad p h g bs err w H he).mono ?_
  rintro e w' ⟨rfl,rfl⟩
  exact ⟨rfl,H,Chg.refl _ _⟩
theorem rint_all (p h g:Nat)(bs:List UInt8)(err:Int)(w:World)(H:RdS w p h g bs err) :
  Calls Tryz.prog 144 #[.pointer (some ⟨p,0,none⟩)] w fun e w'=>e=.returned (.int .i64 (ansInt bs err))∧RdS w' p h g (bs.drop (cutOf bs err 8)) (errOf bs err 8)∧Chg w w' (fun k=>k=h):=by
 unfold ansInt
 by_cases he:err=0
 ·subst he
  rw [if_neg (by simp)]
  by_cases hl:bs.length<8
  ·obtain ⟨e1,e2⟩:=of_end hl
   rw [e1,e2,if_pos hl]
   exact rint_end p h g bs w H hl
  ·obtain ⟨e1,e2⟩:=of_ok hl
   rw [e1,e2,if_neg hl]
   exact rint_ok p h g bs w H (by omega)
 ·obtain ⟨e1,e2⟩:=of_bad (bs:=bs) 8 he
  rw [e1,e2,if_pos he]
  refine (rint_bad p h g bs err w H he).mono ?_
  rintro e w' ⟨rfl,rfl⟩
  exact ⟨rfl,H,Chg.refl _ _⟩
theorem rtext_all (p h g:Nat)(bs:List UInt8)(err:Int)(w:World)(H:RdS w p h g bs err) :
  Calls Tryz.prog 67 #[.pointer (some ⟨p,0,none⟩)] w fun e w'=>e=.returned (.string ⟨(ansText bs err).toArray⟩)∧RdS w' p h g (bs.drop (cutOf bs err (2+tlOf bs))) (errOf bs err (2+tlOf bs))∧Chg w w' (fun k=>k=h):=by
 unfold ansText
 by_cases he:err=0
 ·subst he
  rw [if_neg (by simp)]
  by_cases hl:bs.length<2+tlOf bs
  ·obtain ⟨e1,e2⟩:=of_end hl
   rw [e1,e2,if_pos hl]
   exact rtext_end p h g bs w H hl
  ·obtain ⟨e1,e2⟩:=of_ok hl
   rw [e1,e2,if_neg hl]
   exact rtext_ok p h g bs w H (by omega)
 ·obtain ⟨e1,e2⟩:=of_bad (bs:=bs) (2+tlOf bs) he
  rw [e1,e2,if_pos he]
  refine (rtext_bad p h g bs err w H he).mono ?_
  rintro e w' ⟨rfl,rfl⟩
  exact ⟨rfl,H,Chg.refl _ _⟩
theorem fbyte_all (q g:Nat)(bs:List UInt8)(k:Nat)(err:Int)(w:World)(H:RfS w q g bs k err) :
  Calls Tryz.prog 38 #[.pointer (some ⟨q,0,none⟩)] w fun e w'=>e=.returned (.int .i64 (ansByte (bs.drop k) err))∧RfS w' q g bs (k+cutOf (bs.drop k) err 1) (errOf (bs.drop k) err 1)∧Chg w w' (fun i=>i=q):=by
 unfold ansByte
 have hk:=H.le
 by_cases he:err=0
 ·subst he
  rw [if_neg (by simp)]
  by_cases hl:(bs.drop k).length<1
  ·obtain ⟨e1,e2⟩:=of_end hl
   rw [e1,e2,if_pos hl]
   exact fbyte_end q g bs k w H (by rw [List.length_drop] at hl;exact hl)
  ·obtain ⟨e1,e2⟩:=of_ok hl
   rw [List.length_drop] at hl
   rw [e1,e2,if_neg (by rw [List.length_drop];exact hl),List.getD_eq_getElem?_getD,List.getElem?_drop,Nat.add_zero,List.getElem?_eq_getElem (by omega),Option.getD_some]
   exact fbyte_ok q g bs k w H (by omega)
 ·obtain ⟨e1,e2⟩:=of_bad (bs:=bs.drop k) 1 he
  rw [e1,e2,if_pos he]
  refine (fbyte_bad q g bs k err w H he).mono ?_
  rintro e w' ⟨rfl,rfl⟩
  exact ⟨rfl,H,Chg.refl _ _⟩
theorem fint_all (q g:Nat)(bs:List UInt8)(k:Nat)(err:Int)(w:World)(H:RfS w q g bs k err) :
  Calls Tryz.prog 75 #[.pointer (some ⟨q,0,none⟩)] w fun e w'=>e=.returned (.int .i64 (ansInt (bs.drop k) err))∧RfS w' q g bs (k+cutOf (bs.drop k) err 8) (errOf (bs.drop k) err 8)∧Chg w w' (fun i=>i=q):=by
 unfold ansInt
 have hk:=H.le
 by_cases he:err=0
 ·subst he
  rw [if_neg (by simp)]
  by_cases hl:(bs.drop k).length<8
  ·obtain ⟨e1,e2⟩:=of_end hl
   rw [e1,e2,if_pos hl]
   exact fint_end q g bs k w H (by rw [List.length_drop] at hl;exact hl)
  ·obtain ⟨e1,e2⟩:=of_ok hl
   rw [e1,e2,if_neg hl]
   exact fint_ok q g bs k w H (by rw [List.length_drop] at hl;omega)
 ·obtain ⟨e1,e2⟩:=of_bad (bs:=bs.drop k) 8 he
  rw [e1,e2,if_pos he]
  refine (fint_bad q g bs k err w H he).mono ?_
  rintro e w' ⟨rfl,rfl⟩
  exact ⟨rfl,H,Chg.refl _ _⟩
theorem ftext_all (q g:Nat)(bs:List UInt8)(k:Nat)(err:Int)(w:World)(H:RfS w q g bs k err) :
  Calls Tryz.prog 39 #[.pointer (some ⟨q,0,none⟩)] w fun e w'=>e=.returned (.string ⟨(ansText (bs.drop k) err).toArray⟩)∧RfS w' q g bs (k+cutOf (bs.drop k) err (2+tlOf (bs.drop k))) (errOf (bs.drop k) err (2+tlOf (bs.drop k)))∧Chg w w' (fun i=>i=q):=by
 unfold ansText
 have hk:=H.le
 by_cases he:err=0
 ·subst he
  rw [if_neg (by simp)]
  by_cases hl:(bs.drop k).length<2+tlOf (bs.drop k)
  ·obtain ⟨e1,e2⟩:=of_end hl
   rw [e1,e2,if_pos hl]
   exact ftext_end q g bs k w H (by rw [List.length_drop] at hl;exact hl)
  ·obtain ⟨e1,e2⟩:=of_ok hl
   rw [e1,e2,if_neg hl]
   exact ftext_ok q g bs k w H (by rw [List.length_drop] at hl;omega)
 ·obtain ⟨e1,e2⟩:=of_bad (bs:=bs.drop k) (2+tlOf (bs.drop k)) he
  rw [e1,e2,if_pos he]
  refine (ftext_bad q g bs k err w H he).mono ?_
  rintro e w' ⟨rfl,rfl⟩
  exact ⟨rfl,H,Chg.refl _ _⟩
abbrev RSt:=List UInt8 × Int
def rB (s:RSt)(nd:Nat):RSt:=(s.1.drop (cutOf s.1 s.2 nd),errOf s.1 s.2 nd)
def gByte (s:RSt):Int × RSt:=(ansByte s.1 s.2,rB s 1)
def gInt (s:RSt):Int × RSt:=(ansInt s.1 s.2,rB s 8)
def gText (s:RSt):List UInt8 × RSt:=(ansText s.1 s.2,rB s (2+tlOf s.1))
def gMany {α:Type}(one:RSt→α × RSt):Nat→RSt→List α × RSt
 | 0,s=>([],s)
 | n+1,s=>if s.2≠0 then ([],s) else ((one s).1 :: (gMany one n (one s).2).1,(gMany one n (one s).2).2)
def gIns (s:RSt):(Int × Int) × RSt :=
 if takesN (gByte s).1=0 then (((gByte s).1,0),(gByte s).2) else if takesN (gByte s).1=1 then (((gByte s).1,(gInt (gByte s).2).1),(gInt (gByte s).2).2) else (((gByte s).1,(gByte (gByte s).2).1),(gByte (gByte s).2).2)
def gTypes (s:RSt):List Int × RSt:=gMany gByte (gByte s).1.toNat (gByte s).2
def gCode (s:RSt):List (Int × Int) × RSt:=gMany gIns ((gByte s).1.toNat*256+(gByte (gByte s).2).1.toNat) (gByte (gByte s).2).2
def gFn (s:RSt):Fn × RSt:=(⟨(gTypes s).1,(gTypes (gTypes s).2).1,(gTypes (gTypes (gTypes s).2).2).1,(gCode (gTypes (gTypes (gTypes s).2).2).2).1⟩,(gCode (gTypes (gTypes (gTypes s).2).2).2).2)
def gConsts (s:RSt):List (List UInt8) × RSt:=gMany gText (gByte s).1.toNat (gByte s).2
def gFuncs (s:RSt):List Fn × RSt:=gMany gFn (gByte s).1.toNat (gByte s).2
def gScr (s:RSt):Scr × RSt:=(⟨(gConsts s).1,(gFuncs (gConsts s).2).1⟩,(gFuncs (gConsts s).2).2)
def getOk (bs:List UInt8):Bool:=decide (doneOf (gScr (bs,0)).2.1 (gScr (bs,0)).2.2=0) && (gScr (bs,0)).1.right
theorem gMany_err {α:Type}{one:RSt→α × RSt}:∀ (n:Nat) (s:RSt),s.2≠0→gMany one n s=([],s)
 | 0,_,_=>rfl
 | n+1,s,h=>by unfold gMany;rw [if_pos h]
end Go.Proofs.YtpmlnkjamhelnaaGreat
