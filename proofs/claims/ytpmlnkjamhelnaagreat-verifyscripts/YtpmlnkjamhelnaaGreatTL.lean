/- A walk's step: what an instruction takes off the stack, and what it puts. A walk's step, on any stack. A walk's turn, of any operation, and pass. -/
import Derived.Test.YtpmlnkjamhelnaaGreatTE
import Derived.Test.YtpmlnkjamhelnaaGreatSA
namespace Go.Proofs.YtpmlnkjamhelnaaGreat
open Go.RowKit Go.Shelf
theorem tk_len {st:List Int}:∀ {ws:List Int} {l l':Nat},tkS st ws l=(0,l')→l'+ws.length=l
 | [],l,l',h=>by simp [tkS] at h;simp [h]
 | x :: r,l,l',h=>by
  rw [tkS] at h
  split at h
  ·simp at h
  split at h
  ·simp at h
  ·have:=tk_len h
   simp only [List.length_cons]
   omega
theorem take_len {st ts:List Int}{l:Nat}(h:takeS st ts=(0,l)):l+ts.length=st.length:=by
 have:=tk_len h
 rwa [List.length_reverse] at this
theorem tk_no {st:List Int}:∀ {ws:List Int} {l:Nat},(tkS st ws l).1≠0→(tkS st ws l).2=0
 | [],l,h=>by simp [tkS] at h
 | x :: r,l,h=>by
  rw [tkS] at h ⊢
  split at h
  ·rename_i h0;rw [if_pos h0]
  rename_i h0
  rw [if_neg h0]
  split at h
  ·rename_i h1;rw [if_pos h1]
  ·rename_i h1;rw [if_neg h1];exact tk_no h
theorem inT_7:inT 7=[0,0]:=by decide
theorem inT_8:inT 8=[0,0]:=by decide
theorem ns_take {C:Addr→Option Value}{a:Option Addr}{p:List Int}(h:NsAt C a p)(l:Nat):NsAt C a (p.take l):=by
 rcases h with rfl | ⟨b,off,e,h⟩
 ·exact .inl (by simp)
 ·exact .inr ⟨b,off,e,fun j hj=>by
   rw [List.length_take] at hj
   rw [h j (by omega),List.getElem_take]⟩
theorem ns_drop {C:Addr→Option Value}{b off:Nat}{p:List Int}(h:NsAt C (some ⟨b,off,none⟩) p)(l c:Nat)(hc:p.length≤c):NsAt C (if c=l then some ⟨b,off,none⟩ else some ⟨b,off+l,none⟩) (p.drop l):=by
 by_cases hcl:c=l
 ·exact .inl (List.drop_eq_nil_of_le (by omega))
 ·rw [if_neg hcl]
  rcases h with rfl | ⟨b',off',e,h⟩
  ·exact .inl (by simp)
  ·cases e
   refine .inr ⟨b,off+l,rfl,fun j hj=>?_⟩
   rw [List.length_drop] at hj
   rw [List.getElem_drop,Nat.add_assoc]
   exact h (l+j) (by omega)
def stepW (fs:List Fn)(sl:List Int)(x:Int × Int)(p:List Int):Int × List Int :=
 if (takeS p (takenS fs sl x)).1=0 then (0,p.take (takeS p (takenS fs sl x)).2++givenS fs sl x (p.drop (takeS p (takenS fs sl x)).2)) else ((takeS p (takenS fs sl x)).1,p)
theorem WStA.fsl {wb:Nat}{fs:List Fn}{sl:List Int}{fa:Option Addr}{fc:Nat}{sa:Option Addr}{sc:Nat}{p:List Int}{L:List OB}{a:Option Addr}{c:Nat}{la:Option Addr}{lc:Nat}{bs:List Nat}{W:World}(h:WStA wb (.slice fa fs.length fc) (.slice sa sl.length sc) p L a c la lc bs W)(hf:FsAt W.cell? fa fs)(hs:NsAt W.cell? sa sl)(hc:sl.length≤sc):FSl wb fs sl fa fc sa sc W:=by
 have:=(four_cell h.box).1
 exact ⟨this.1,this.2.1,hf,hs,hc⟩
set_option maxRecDepth 100000 in
set_option maxHeartbeats 2000000 in
theorem step_no {wb:Nat}{fs:List Fn}{sl:List Int}{fa:Option Addr}{fc:Nat}{sa:Option Addr}{sc:Nat}{p:List Int}{L:List OB}{a:Option Addr}{c:Nat}{la:Option Addr}{lc:Nat}{bs:List Nat}(x:Int × Int)(hx:InsR fs sl x)(bsl:sl.length≤1000)(bf:fs.length≤1000)(bp:p.length≤1000)(bt:(takenS fs sl x).length≤1000)(hsc:sl.length≤sc)(W:World)(h:WStA wb (.slice fa fs.length fc) (.slice sa sl.length sc) p L a c la lc bs W)
  (hK:∀ V,Below wb W V→FsAt V.cell? fa fs∧NsAt V.cell? sa sl) (er:Int) (her:er≠0) (ht:takeS p (takenS fs sl x)=(er,0)) :
  Calls Tryz.prog 152 #[.pointer (some ⟨wb,0,none⟩),.agg #[.int .i64 x.1,.int .i64 x.2]] W (WEnd wb (.slice fa fs.length fc) (.slice sa sl.length sc) er p L W):=by
 have hlt:=blk_lt h.box
 have b1:=(Below.refl _ W).alloc (Nat.le_refl _) (.cells #[.int .i64 x.1,.int .i64 x.2] 74)
 have bV:=b1.drew
 have hV:=h.below bV
 obtain ⟨k1,k2⟩:=hK _ (bV.mono (Nat.le_of_lt hlt))
 have HT:Hid (Calls Tryz.prog 171 #[.pointer (some ⟨wb,0,none⟩),.agg #[.int .i64 x.1,.int .i64 x.2]] (W.alloc (.cells #[.int .i64 x.1,.int .i64 x.2] 74)).drew fun e w1=>∃ ta tc,e=.returned (.slice ta (takenS fs sl x).length tc)∧w1.cell? ⟨wb,2,none⟩=some (.slice a p.length c)∧Hid (Calls Tryz.prog 170 #[.slice a p.length c,.slice ta (takenS fs sl x).length tc] w1 fun e w2=>e=.returned (.tuple #[.slice none 0 0,.int .i64 er])∧Hid (∀ e',e'=.returned (.int .i64 er)→WEnd wb (.slice fa fs.length fc) (.slice sa sl.length sc) er p L W e' w2))):=hid7 ((taken_any x hx bsl bf _ (hV.fsl k1 k2 hsc)).mono fun e w1 ⟨ta,tc,he,n1,b2⟩=>by
  have h1:=hV.below b2
  refine ⟨ta,tc,he,(four_cell h1.box).1.2.2.1,hid7 ?_⟩
  refine (take_any a ta c tc _ _ p (takenS fs sl x) rfl rfl (by omega) (by omega) h1.cap w1 h1.stk.at' n1).mono fun e2 w2 ⟨he2,b3⟩=>?_
  rw [ht] at he2
  refine ⟨by rw [he2];simp [her],hid7 fun e' he'=>⟨he',⟨_,_,_,_,_,h1.below b3⟩,?_,?_⟩⟩
  ·exact ((bV.trans (b2.mono bV.size)).trans (b3.mono (Nat.le_trans bV.size b2.size))).mono (Nat.le_of_lt hlt)
  ·exact ((Mv7.below bV).trans (Mv7.below b2)).trans (Mv7.below b3))
 have c2:=(four_cell h.box).1.2.2.1
 have hne:(er != 0)=true:=by simpa using her
 clear h hV hK k1 k2 hx b1 bV ht
 generalize p.length=pl at c2 HT bp
 generalize (takenS fs sl x).length=tl at HT bt
 generalize (Value.slice fa fs.length fc)=fv at HT ⊢
 generalize (Value.slice sa sl.length sc)=sv at HT ⊢
 obtain ⟨n,A⟩:=x
 simp only at HT ⊢
 go_enter Tryz.func152,Tryz.ntmps152
 go_wp2_with fail
 go_region_with (first | (go_at_call 171;refine HT.out.mono ?_;clear HT;rintro e w1 ⟨ta,tc,rfl,cw,hA⟩) | (go_at_call 170;refine hA.out.mono ?_;clear hA;rintro e w2 ⟨rfl,K1⟩) | fail)
 all_goals
  go_wp2
  go_ret
  exact K1.out _ rfl
set_option maxRecDepth 100000 in
set_option maxHeartbeats 8000000 in
theorem step_yes {wb:Nat}{fs:List Fn}{sl:List Int}{fa:Option Addr}{fc:Nat}{sa:Option Addr}{sc:Nat}{p:List Int}{L:List OB}{ab ao c:Nat}{la:Option Addr}{lc:Nat}{bs:List Nat}(x:Int × Int)(hx:InsR fs sl x)(bsl:sl.length≤1000)(bf:fs.length≤1000)(bp:p.length≤1000)(bt:(takenS fs sl x).length≤1000)(hsc:sl.length≤sc)(W:World)(h:WStA wb (.slice fa fs.length fc) (.slice sa sl.length sc) p L (some ⟨ab,ao,none⟩) c la lc bs W)
  (hK:∀ V,Below wb W V→FsAt V.cell? fa fs∧NsAt V.cell? sa sl) (l:Nat) (ht:takeS p (takenS fs sl x)=(0,l)) (bg:(givenS fs sl x (p.drop l)).length≤1000) :
  Calls Tryz.prog 152 #[.pointer (some ⟨wb,0,none⟩),.agg #[.int .i64 x.1,.int .i64 x.2]] W (WEnd wb (.slice fa fs.length fc) (.slice sa sl.length sc) 0 (p.take l++givenS fs sl x (p.drop l)) L W):=by
 have hlt:=blk_lt h.box
 have hll:=take_len ht
 have hdl:(p.drop l).length=p.length - l:=List.length_drop
 have h78:x.1=7∨x.1=8→p.length - l=2:=fun hh=>by
  have:(takenS fs sl x).length=2:=by
   rcases hh with hh | hh
   ·rw [takenS,if_neg (by omega),if_neg (by omega),hh,inT_7];rfl
   ·rw [takenS,if_neg (by omega),if_neg (by omega),hh,inT_8];rfl
  omega
 have b1:=(Below.refl _ W).alloc (Nat.le_refl _) (.cells #[.int .i64 x.1,.int .i64 x.2] 74)
 have bV:=b1.drew
 have hV:=h.below bV
 have cx:∀ V,Below (W.alloc (.cells #[.int .i64 x.1,.int .i64 x.2] 74)).drew.heap.size (W.alloc (.cells #[.int .i64 x.1,.int .i64 x.2] 74)).drew V→V.cell? ⟨W.heap.size,0,none⟩=some (.int .i64 x.1)∧V.cell? ⟨W.heap.size,1,none⟩=some (.int .i64 x.2):=fun V hVV=>by
  have e1:(W.alloc (.cells #[.int .i64 x.1,.int .i64 x.2] 74)).heap[W.heap.size]?=some (.cells #[.int .i64 x.1,.int .i64 x.2] 74 (0,0)):=heap_alloc_new W _
  have e2:=(hVV.block W.heap.size (by show _<(W.alloc (.cells #[.int .i64 x.1,.int .i64 x.2] 74)).heap.size;simp)).trans e1
  simp [World.cell?,e2]
 obtain ⟨k1,k2⟩:=hK _ (bV.mono (Nat.le_of_lt hlt))
 have HT:Hid (Calls Tryz.prog 171 #[.pointer (some ⟨wb,0,none⟩),.agg #[.int .i64 x.1,.int .i64 x.2]] (W.alloc (.cells #[.int .i64 x.1,.int .i64 x.2] 74)).drew fun e w1=>∃ ta tc,e=.returned (.slice ta (takenS fs sl x).length tc)∧w1.cell? ⟨wb,2,none⟩=some (.slice (some ⟨ab,ao,none⟩) p.length c) ∧
   Hid (Calls Tryz.prog 170 #[.slice (some ⟨ab,ao,none⟩) p.length c,.slice ta (takenS fs sl x).length tc] w1 fun e w2=>e=.returned (.tuple #[.slice (some ⟨ab,ao,none⟩) l c,.int .i64 0])∧w2.cell? ⟨wb,2,none⟩=some (.slice (some ⟨ab,ao,none⟩) p.length c)∧w2.cell? ⟨W.heap.size,0,none⟩=some (.int .i64 x.1)∧w2.cell? ⟨W.heap.size,1,none⟩=some (.int .i64 x.2) ∧
    Hid (Calls Tryz.prog 173 #[.pointer (some ⟨wb,0,none⟩),.agg #[.int .i64 x.1,.int .i64 x.2],.slice (if c=l then some ⟨ab,ao,none⟩ else some ⟨ab,ao+l,none⟩) (p.length - l) (c - l)] w2.drew fun e w3=>∃ ga gc,e=.returned (.slice ga (givenS fs sl x (p.drop l)).length gc) ∧
     Hid (Calls Tryz.prog 172 #[.slice (some ⟨ab,ao,none⟩) l c,.slice ga (givenS fs sl x (p.drop l)).length gc] w3 fun e w4=>∃ a4 c4 n4,e=.returned (.slice a4 n4 c4)∧(∃ u,w4.cell? ⟨wb,2,none⟩=some u)∧w4.frozen? ⟨wb,2,none⟩=false∧Hid (∀ e',e'=.returned (.int .i64 0)→WEnd wb (.slice fa fs.length fc) (.slice sa sl.length sc) 0 (p.take l++givenS fs sl x (p.drop l)) L W e' (w4.setCell ⟨wb,2,none⟩ (.slice a4 n4 c4))))))):=hid7 ((taken_any x hx bsl bf _ (hV.fsl k1 k2 hsc)).mono fun e w1 ⟨ta,tc,he,n1,b2⟩=>by
  have h1:=hV.below b2
  refine ⟨ta,tc,he,(four_cell h1.box).1.2.2.1,hid7 ?_⟩
  refine (take_any _ ta c tc _ _ p (takenS fs sl x) rfl rfl (by omega) (by omega) h1.cap w1 h1.stk.at' n1).mono fun e2 w2 ⟨he2,b3⟩=>?_
  rw [ht] at he2
  have h2:=h1.below b3
  have bb2:Below (W.alloc (.cells #[.int .i64 x.1,.int .i64 x.2] 74)).drew.heap.size (W.alloc (.cells #[.int .i64 x.1,.int .i64 x.2] 74)).drew w2:=b2.trans (b3.mono b2.size)
  have bW2:Below W.heap.size W w2:=bV.trans (bb2.mono bV.size)
  obtain ⟨d0,d1⟩:=cx w2 bb2
  refine ⟨by rw [he2];simp,(four_cell h2.box).1.2.2.1,d0,d1,hid7 ?_⟩
  have bW2d:Below W.heap.size W w2.drew:=bW2.drew
  have h2d:WStA wb (.slice fa fs.length fc) (.slice sa sl.length sc) p L (some ⟨ab,ao,none⟩) c la lc bs w2.drew:=h2.drew 1
  obtain ⟨q1,q2⟩:=hK _ (bW2d.mono (Nat.le_of_lt hlt))
  refine (given_any x hx bsl bf _ (h2d.fsl q1 q2 hsc) (p.drop l) _ (c - l) (p.length - l) hdl (by omega) (by have:=h2.cap;omega) (ns_drop h2d.stk.at' l c h2.cap) h78).mono fun e3 w3 ⟨ga,gc,he3,n3,b4⟩=>?_
  have h3:=h2d.below b4
  refine ⟨ga,gc,he3,hid7 ?_⟩
  have htl:(p.take l).length=l:=by rw [List.length_take];omega
  refine (put_any _ ga c gc l _ (p.take l) _ htl rfl (by omega) (by omega) w3 (ns_take h3.stk.at' l) n3).mono fun e4 w4 ⟨a4,c4,he4,hc4,hr4,b5⟩=>?_
  have h4:=h3.below b5
  have hcx:=four_cell h4.box
  refine ⟨a4,c4,_,he4,⟨_,hcx.1.2.2.1⟩,hcx.2.1,hid7 fun e' he'=>⟨he',⟨a4,c4,la,lc,bs,?_⟩,?_,?_⟩⟩
  ·have mW:=Mv7.set (o:=2) (u:=.slice a4 (p.take l++givenS fs sl x (p.drop l)).length c4) h4.box (.inl rfl)
   refine ⟨four_set2 h4.box,hc4,((ns_in_row hr4).low (Nat.le_of_lt (blk_lt h3.box))).mv mW,row_other6 h4.row h4.box (by decide),h4.len,h4.nod,h4.gt,fun i hi=>(h4.blk i hi).other h4.box (.inl rfl) fun e=>?_⟩
   have:bs.getD i 0 ∈ bs:=by
    rw [List.getD_eq_getElem?_getD,List.getElem?_eq_getElem (by rw [h4.len];exact hi)]
    exact List.getElem_mem _
   have:=h4.gt _ this
   omega
  ·have q3:Below W.heap.size W w4:=(bW2d.trans (b4.mono bW2d.size)).trans (b5.mono (Nat.le_trans bW2d.size b4.size))
   exact (q3.mono (Nat.le_of_lt hlt)).setCell (p:=⟨wb,2,none⟩) (Nat.le_refl _) _
  ·have q3:Below W.heap.size W w4:=(bW2d.trans (b4.mono bW2d.size)).trans (b5.mono (Nat.le_trans bW2d.size b4.size))
   exact (Mv7.below q3).trans (Mv7.set h4.box (.inl rfl)))
 have c2:=(four_cell h.box).1.2.2.1
 have hlp:(l:Int)≤p.length:=by omega
 have hpc:(p.length:Int)≤c:=by have:=h.cap;omega
 clear h hV hK k1 k2 hx b1 bV ht cx h78 hdl hll
 generalize p.length=pl at c2 HT bp hlp hpc
 generalize (takenS fs sl x).length=tl at HT bt
 generalize (givenS fs sl x (p.drop l)).length=gl at HT bg
 generalize p.take l++givenS fs sl x (p.drop l)=p' at HT ⊢
 generalize (Value.slice fa fs.length fc)=fv at HT ⊢
 generalize (Value.slice sa sl.length sc)=sv at HT ⊢
 obtain ⟨n,A⟩:=x
 simp only at HT ⊢
 by_cases hcl:c=l
 ·have hpl:pl=l:=by omega
  subst hcl
  subst hpl
  rw [if_pos rfl,Nat.sub_self] at HT
  go_enter Tryz.func152,Tryz.ntmps152
  go_wp2_with fail
  go_region_with (first | (go_at_call 171;refine HT.out.mono ?_;clear HT;rintro e w1 ⟨ta,tc,rfl,cw,hA⟩) | (go_at_call 170;refine hA.out.mono ?_;clear hA;rintro e w2 ⟨rfl,d2,d0,d1,hG⟩) | fail)
  all_goals go_wp2_with fail
  all_goals go_region_with (first | (go_at_call 173;refine hG.out.mono ?_;clear hG;rintro e w3 ⟨ga,gc,rfl,hP⟩) | (go_at_call 172;refine hP.out.mono ?_;clear hP;rintro e w4 ⟨a4,c4,n4,rfl,⟨u4,z4⟩,f4,K1⟩) | fail)
  all_goals
   go_wp2
   go_ret
   exact K1.out _ rfl
 ·rw [if_neg hcl] at HT
  go_enter Tryz.func152,Tryz.ntmps152
  go_wp2_with fail
  go_region_with (first | (go_at_call 171;refine HT.out.mono ?_;clear HT;rintro e w1 ⟨ta,tc,rfl,cw,hA⟩) | (go_at_call 170;refine hA.out.mono ?_;clear hA;rintro e w2 ⟨rfl,d2,d0,d1,hG⟩) | fail)
  all_goals go_wp2_with fail
  all_goals go_region_with (first | (go_at_call 173;refine hG.out.mono ?_;clear hG;rintro e w3 ⟨ga,gc,rfl,hP⟩) | (go_at_call 172;refine hP.out.mono ?_;clear hP;rintro e w4 ⟨a4,c4,n4,rfl,⟨u4,z4⟩,f4,K1⟩) | fail)
  all_goals
   go_wp2
   go_ret
   exact K1.out _ rfl
set_option maxRecDepth 100000 in
set_option maxHeartbeats 8000000 in
theorem step_nil {wb:Nat}{fs:List Fn}{sl:List Int}{fa:Option Addr}{fc:Nat}{sa:Option Addr}{sc:Nat}{p:List Int}{L:List OB}{c:Nat}{la:Option Addr}{lc:Nat}{bs:List Nat}(x:Int × Int)(hx:InsR fs sl x)(bsl:sl.length≤1000)(bf:fs.length≤1000)(bp:p.length≤1000)(bt:(takenS fs sl x).length≤1000)(hsc:sl.length≤sc)(W:World)(h:WStA wb (.slice fa fs.length fc) (.slice sa sl.length sc) p L none c la lc bs W)
  (hK:∀ V,Below wb W V→FsAt V.cell? fa fs∧NsAt V.cell? sa sl) (l:Nat) (ht:takeS p (takenS fs sl x)=(0,l)) (bg:(givenS fs sl x (p.drop l)).length≤1000) :
  Calls Tryz.prog 152 #[.pointer (some ⟨wb,0,none⟩),.agg #[.int .i64 x.1,.int .i64 x.2]] W (WEnd wb (.slice fa fs.length fc) (.slice sa sl.length sc) 0 (p.take l++givenS fs sl x (p.drop l)) L W):=by
 have hlt:=blk_lt h.box
 have hll:=take_len ht
 have hdl:(p.drop l).length=p.length - l:=List.length_drop
 have hnil:p=[]:=by
  rcases h.stk with h0 | ⟨_,_,_,e,_⟩
  ·exact h0.1
  ·cases e
 have hnil':p.drop l=[]:=by rw [hnil];simp
 have h78:x.1=7∨x.1=8→p.length - l=2:=fun hh=>by
  have:(takenS fs sl x).length=2:=by
   rcases hh with hh | hh
   ·rw [takenS,if_neg (by omega),if_neg (by omega),hh,inT_7];rfl
   ·rw [takenS,if_neg (by omega),if_neg (by omega),hh,inT_8];rfl
  omega
 have b1:=(Below.refl _ W).alloc (Nat.le_refl _) (.cells #[.int .i64 x.1,.int .i64 x.2] 74)
 have bV:=b1.drew
 have hV:=h.below bV
 have cx:∀ V,Below (W.alloc (.cells #[.int .i64 x.1,.int .i64 x.2] 74)).drew.heap.size (W.alloc (.cells #[.int .i64 x.1,.int .i64 x.2] 74)).drew V→V.cell? ⟨W.heap.size,0,none⟩=some (.int .i64 x.1)∧V.cell? ⟨W.heap.size,1,none⟩=some (.int .i64 x.2):=fun V hVV=>by
  have e1:(W.alloc (.cells #[.int .i64 x.1,.int .i64 x.2] 74)).heap[W.heap.size]?=some (.cells #[.int .i64 x.1,.int .i64 x.2] 74 (0,0)):=heap_alloc_new W _
  have e2:=(hVV.block W.heap.size (by show _<(W.alloc (.cells #[.int .i64 x.1,.int .i64 x.2] 74)).heap.size;simp)).trans e1
  simp [World.cell?,e2]
 obtain ⟨k1,k2⟩:=hK _ (bV.mono (Nat.le_of_lt hlt))
 have HT:Hid (Calls Tryz.prog 171 #[.pointer (some ⟨wb,0,none⟩),.agg #[.int .i64 x.1,.int .i64 x.2]] (W.alloc (.cells #[.int .i64 x.1,.int .i64 x.2] 74)).drew fun e w1=>∃ ta tc,e=.returned (.slice ta (takenS fs sl x).length tc)∧w1.cell? ⟨wb,2,none⟩=some (.slice none p.length c) ∧
   Hid (Calls Tryz.prog 170 #[.slice none p.length c,.slice ta (takenS fs sl x).length tc] w1 fun e w2=>e=.returned (.tuple #[.slice none l c,.int .i64 0])∧w2.cell? ⟨wb,2,none⟩=some (.slice none p.length c)∧w2.cell? ⟨W.heap.size,0,none⟩=some (.int .i64 x.1)∧w2.cell? ⟨W.heap.size,1,none⟩=some (.int .i64 x.2) ∧
    Hid (Calls Tryz.prog 173 #[.pointer (some ⟨wb,0,none⟩),.agg #[.int .i64 x.1,.int .i64 x.2],.slice none (p.length - l) (c - l)] w2.drew fun e w3=>∃ ga gc,e=.returned (.slice ga (givenS fs sl x (p.drop l)).length gc) ∧
     Hid (Calls Tryz.prog 172 #[.slice none l c,.slice ga (givenS fs sl x (p.drop l)).length gc] w3 fun e w4=>∃ a4 c4 n4,e=.returned (.slice a4 n4 c4)∧(∃ u,w4.cell? ⟨wb,2,none⟩=some u)∧w4.frozen? ⟨wb,2,none⟩=false∧Hid (∀ e',e'=.returned (.int .i64 0)→WEnd wb (.slice fa fs.length fc) (.slice sa sl.length sc) 0 (p.take l++givenS fs sl x (p.drop l)) L W e' (w4.setCell ⟨wb,2,none⟩ (.slice a4 n4 c4))))))):=hid7 ((taken_any x hx bsl bf _ (hV.fsl k1 k2 hsc)).mono fun e w1 ⟨ta,tc,he,n1,b2⟩=>by
  have h1:=hV.below b2
  refine ⟨ta,tc,he,(four_cell h1.box).1.2.2.1,hid7 ?_⟩
  refine (take_any _ ta c tc _ _ p (takenS fs sl x) rfl rfl (by omega) (by omega) h1.cap w1 h1.stk.at' n1).mono fun e2 w2 ⟨he2,b3⟩=>?_
  rw [ht] at he2
  have h2:=h1.below b3
  have bb2:Below (W.alloc (.cells #[.int .i64 x.1,.int .i64 x.2] 74)).drew.heap.size (W.alloc (.cells #[.int .i64 x.1,.int .i64 x.2] 74)).drew w2:=b2.trans (b3.mono b2.size)
  have bW2:Below W.heap.size W w2:=bV.trans (bb2.mono bV.size)
  obtain ⟨d0,d1⟩:=cx w2 bb2
  refine ⟨by rw [he2];simp,(four_cell h2.box).1.2.2.1,d0,d1,hid7 ?_⟩
  have bW2d:Below W.heap.size W w2.drew:=bW2.drew
  have h2d:WStA wb (.slice fa fs.length fc) (.slice sa sl.length sc) p L none c la lc bs w2.drew:=h2.drew 1
  obtain ⟨q1,q2⟩:=hK _ (bW2d.mono (Nat.le_of_lt hlt))
  refine (given_any x hx bsl bf _ (h2d.fsl q1 q2 hsc) (p.drop l) _ (c - l) (p.length - l) hdl (by omega) (by have:=h2.cap;omega) (.inl hnil') h78).mono fun e3 w3 ⟨ga,gc,he3,n3,b4⟩=>?_
  have h3:=h2d.below b4
  refine ⟨ga,gc,he3,hid7 ?_⟩
  have htl:(p.take l).length=l:=by rw [List.length_take];omega
  refine (put_any _ ga c gc l _ (p.take l) _ htl rfl (by omega) (by omega) w3 (ns_take h3.stk.at' l) n3).mono fun e4 w4 ⟨a4,c4,he4,hc4,hr4,b5⟩=>?_
  have h4:=h3.below b5
  have hcx:=four_cell h4.box
  refine ⟨a4,c4,_,he4,⟨_,hcx.1.2.2.1⟩,hcx.2.1,hid7 fun e' he'=>⟨he',⟨a4,c4,la,lc,bs,?_⟩,?_,?_⟩⟩
  ·have mW:=Mv7.set (o:=2) (u:=.slice a4 (p.take l++givenS fs sl x (p.drop l)).length c4) h4.box (.inl rfl)
   refine ⟨four_set2 h4.box,hc4,((ns_in_row hr4).low (Nat.le_of_lt (blk_lt h3.box))).mv mW,row_other6 h4.row h4.box (by decide),h4.len,h4.nod,h4.gt,fun i hi=>(h4.blk i hi).other h4.box (.inl rfl) fun e=>?_⟩
   have:bs.getD i 0 ∈ bs:=by
    rw [List.getD_eq_getElem?_getD,List.getElem?_eq_getElem (by rw [h4.len];exact hi)]
    exact List.getElem_mem _
   have:=h4.gt _ this
   omega
  ·have q3:Below W.heap.size W w4:=(bW2d.trans (b4.mono bW2d.size)).trans (b5.mono (Nat.le_trans bW2d.size b4.size))
   exact (q3.mono (Nat.le_of_lt hlt)).setCell (p:=⟨wb,2,none⟩) (Nat.le_refl _) _
  ·have q3:Below W.heap.size W w4:=(bW2d.trans (b4.mono bW2d.size)).trans (b5.mono (Nat.le_trans bW2d.size b4.size))
   exact (Mv7.below q3).trans (Mv7.set h4.box (.inl rfl)))
 have c2:=(four_cell h.box).1.2.2.1
 have hlp:(l:Int)≤p.length:=by omega
 have hpc:(p.length:Int)≤c:=by have:=h.cap;omega
 clear h hV hK k1 k2 hx b1 bV ht cx h78 hdl hll
 generalize p.length=pl at c2 HT bp hlp hpc
 generalize (takenS fs sl x).length=tl at HT bt
 generalize (givenS fs sl x (p.drop l)).length=gl at HT bg
 generalize p.take l++givenS fs sl x (p.drop l)=p' at HT ⊢
 generalize (Value.slice fa fs.length fc)=fv at HT ⊢
 generalize (Value.slice sa sl.length sc)=sv at HT ⊢
 obtain ⟨n,A⟩:=x
 simp only at HT ⊢
 go_enter Tryz.func152,Tryz.ntmps152
 go_wp2_with fail
 go_region_with (first | (go_at_call 171;refine HT.out.mono ?_;clear HT;rintro e w1 ⟨ta,tc,rfl,cw,hA⟩) | (go_at_call 170;refine hA.out.mono ?_;clear hA;rintro e w2 ⟨rfl,d2,d0,d1,hG⟩) | fail)
 all_goals go_wp2_with fail
 all_goals go_region_with (first | (go_at_call 173;refine hG.out.mono ?_;clear hG;rintro e w3 ⟨ga,gc,rfl,hP⟩) | (go_at_call 172;refine hP.out.mono ?_;clear hP;rintro e w4 ⟨a4,c4,n4,rfl,⟨u4,z4⟩,f4,K1⟩) | fail)
 all_goals
  go_wp2
  go_ret
  exact K1.out _ rfl
theorem step7_any {wb:Nat}{fs:List Fn}{sl:List Int}{fa:Option Addr}{fc:Nat}{sa:Option Addr}{sc:Nat}{p:List Int}{L:List OB}{a:Option Addr}{c:Nat}{la:Option Addr}{lc:Nat}{bs:List Nat}(x:Int × Int)(hx:InsR fs sl x)(bsl:sl.length≤1000)(bf:fs.length≤1000)(bp:p.length≤1000)(bt:(takenS fs sl x).length≤1000)(hsc:sl.length≤sc)(W:World)(h:WStA wb (.slice fa fs.length fc) (.slice sa sl.length sc) p L a c la lc bs W)
  (hK:∀ V,Below wb W V→FsAt V.cell? fa fs∧NsAt V.cell? sa sl) (bg:∀ l,(givenS fs sl x (p.drop l)).length≤1000) :
  Calls Tryz.prog 152 #[.pointer (some ⟨wb,0,none⟩),.agg #[.int .i64 x.1,.int .i64 x.2]] W (WEnd wb (.slice fa fs.length fc) (.slice sa sl.length sc) (stepW fs sl x p).1 (stepW fs sl x p).2 L W):=by
 obtain ⟨er,l,ht⟩:∃ er l,takeS p (takenS fs sl x)=(er,l):=⟨_,_,rfl⟩
 by_cases her:er=0
 ·subst her
  have e1:stepW fs sl x p=(0,p.take l++givenS fs sl x (p.drop l)):=by simp [stepW,ht]
  rw [e1]
  cases a with
  | none=>exact step_nil x hx bsl bf bp bt hsc W h hK l ht (bg l)
  | some ad =>
   have hp:∃ ab ao,ad=⟨ab,ao,none⟩:=by
    rcases h.stk with ⟨_,h0 | ⟨b,off,h0⟩⟩ | ⟨b,off,_,e,_⟩
    ·cases h0
    ·cases h0
     exact ⟨b,off,rfl⟩
    ·cases e
     exact ⟨b,off,rfl⟩
   obtain ⟨ab,ao,rfl⟩:=hp
   exact step_yes x hx bsl bf bp bt hsc W h hK l ht (bg l)
 ·have hl:l=0:=by
   have:=tk_no (st:=p) (ws:=(takenS fs sl x).reverse) (l:=p.length)
   rw [show tkS p (takenS fs sl x).reverse p.length=(er,l) from ht] at this
   exact this her
  subst hl
  have e1:stepW fs sl x p=(er,p):=by simp [stepW,ht,her]
  rw [e1]
  exact step_no x hx bsl bf bp bt hsc W h hK er her ht
def turnW (n:Int)(p:List Int)(L:List OB):Int × List Int × List OB :=
 if n=48∨n=51 then (0,p,L++[⟨p,p,decide (n=51)⟩])
 else if n=49 then (match L.getLast? with | none=>(0,p,L) | some b=>(0,b.en,L.dropLast++[⟨b.en,p,b.lo⟩]))
 else if n=50 then (match L.getLast? with | none=>(0,p,L) | some b=>(alikeS p b.la,p,L.dropLast))
 else if n=52 then (match (lpIx L).bind (fun i=>L[i]?) with | none=>(0,p,L) | some b=>(alikeS p b.en,p,L))
 else (0,p,L)
def TurnOk (n:Int)(L:List OB):Prop:=(n=49∨n=50→L≠[])∧(n=52→(lpIx L).isSome=true)
theorem turn7_any {wb:Nat}{fv sv:Value}{p:List Int}{L:List OB}{a:Option Addr}{c:Nat}{la:Option Addr}{lc:Nat}{bs:List Nat}(n:Int)(ho:TurnOk n L)(bp:p.length≤1000)(bb:∀ b ∈ L,b.en.length≤1000∧b.la.length≤1000)(bm:L.length≤1000)(W:World)(h:WStA wb fv sv p L a c la lc bs W) :
  Calls Tryz.prog 153 #[.pointer (some ⟨wb,0,none⟩),.int .i64 n] W (WEnd wb fv sv (turnW n p L).1 (turnW n p L).2.1 (turnW n p L).2.2 W):=by
 by_cases h1:n=48∨n=51
 ·have e1:turnW n p L=(0,p,L++[⟨p,p,decide (n=51)⟩]):=by rw [turnW,if_pos h1]
  rw [e1]
  exact turn_open bm W h n h1
 by_cases h2:n=49
 ·rcases List.eq_nil_or_concat L with rfl | ⟨M,b,rfl⟩
  ·exact absurd rfl (ho.1 (.inl h2))
  rw [List.concat_eq_append] at h bb bm ⊢
  have e1:turnW n p (M++[b])=(0,b.en,M++[⟨b.en,p,b.lo⟩]):=by
   rw [turnW,if_neg h1,if_pos h2]
   simp
  rw [e1]
  subst h2
  exact turn_else (L:=M) (bb b (by simp)).1 (by simp at bm;omega) W h
 by_cases h3:n=50
 ·rcases List.eq_nil_or_concat L with rfl | ⟨M,b,rfl⟩
  ·exact absurd rfl (ho.1 (.inr h3))
  rw [List.concat_eq_append] at h bb bm ⊢
  have e1:turnW n p (M++[b])=(alikeS p b.la,p,M):=by
   rw [turnW,if_neg h1,if_neg h2,if_pos h3]
   simp
  rw [e1]
  subst h3
  exact turn_end (L:=M) bp (bb b (by simp)).2 (by simp at bm;omega) W h
 by_cases h4:n=52
 ·obtain ⟨i,hi⟩:=Option.isSome_iff_exists.1 (ho.2 h4)
  have hil:i<L.length:=fstIx_lt hi
  have e1:turnW n p L=(alikeS p L[i].en,p,L):=by
   rw [turnW,if_neg h1,if_neg h2,if_neg h3,if_pos h4,hi]
   simp [hil]
  rw [e1]
  subst h4
  exact turn_leave i hi L[i] (List.getElem?_eq_getElem hil) bp (bb _ (List.getElem_mem _)).1 bm W h
 ·have e1:turnW n p L=(0,p,L):=by rw [turnW,if_neg h1,if_neg h2,if_neg h3,if_neg h4]
  rw [e1]
  exact turn_none W h n (by omega)
def passW (fs:List Fn)(sl:List Int)(x:Int × Int)(p:List Int)(L:List OB):Int × List Int × List OB :=
 if (stepW fs sl x p).1≠0 then ((stepW fs sl x p).1,(stepW fs sl x p).2,L)
 else if (turnW x.1 (stepW fs sl x p).2 L).1≠0 then turnW x.1 (stepW fs sl x p).2 L
 else if 32<(turnW x.1 (stepW fs sl x p).2 L).2.1.length then (32,(turnW x.1 (stepW fs sl x p).2 L).2)
 else (0,(turnW x.1 (stepW fs sl x p).2 L).2)
set_option maxRecDepth 100000 in
set_option maxHeartbeats 2000000 in
theorem pass_any {wb:Nat}{fs:List Fn}{sl:List Int}{fa:Option Addr}{fc:Nat}{sa:Option Addr}{sc:Nat}{p:List Int}{L:List OB}{a:Option Addr}{c:Nat}{la:Option Addr}{lc:Nat}{bs:List Nat}(x:Int × Int)(hx:InsR fs sl x)(ho:TurnOk x.1 L)(bsl:sl.length≤1000)(bf:fs.length≤1000)(bp:p.length≤100)(bb:∀ b ∈ L,b.en.length≤1000∧b.la.length≤1000)(bm:L.length≤1000)(bt:(takenS fs sl x).length≤1000)(hsc:sl.length≤sc)(W:World)(h:WStA wb (.slice fa fs.length fc) (.slice sa sl.length sc) p L a c la lc bs W)
  (hK:∀ V,Below wb W V→FsAt V.cell? fa fs∧NsAt V.cell? sa sl) (bg:∀ l,(givenS fs sl x (p.drop l)).length≤500) :
  Calls Tryz.prog 112 #[.pointer (some ⟨wb,0,none⟩),.agg #[.int .i64 x.1,.int .i64 x.2]] W (WEnd wb (.slice fa fs.length fc) (.slice sa sl.length sc) (passW fs sl x p L).1 (passW fs sl x p L).2.1 (passW fs sl x p L).2.2 W):=by
 have hlt:=blk_lt h.box
 have b1:=(Below.refl _ W).alloc (Nat.le_refl _) (.cells #[.int .i64 x.1,.int .i64 x.2] 74)
 have h1:=h.below b1
 have hS:=step7_any x hx bsl bf (by omega) bt hsc _ h1 (fun V hV=>hK V ((b1.mono (Nat.le_of_lt hlt)).trans hV)) (fun l=>by have:=bg l;omega)
 have bS:(stepW fs sl x p).2.length≤1000:=by
  unfold stepW
  split
  ·rw [List.length_append,List.length_take]
   have:=bg (takeS p (takenS fs sl x)).2
   omega
  ·show p.length≤1000;omega
 unfold passW
 by_cases e1:(stepW fs sl x p).1≠0
 ·rw [if_pos e1]
  have hne:((stepW fs sl x p).1 != 0)=true:=by simpa using e1
  have HS:Hid (Calls Tryz.prog 152 #[.pointer (some ⟨wb,0,none⟩),.agg #[.int .i64 x.1,.int .i64 x.2]] (W.alloc (.cells #[.int .i64 x.1,.int .i64 x.2] 74)) fun e w1=>e=.returned (.int .i64 (stepW fs sl x p).1)∧Hid (WEnd wb (.slice fa fs.length fc) (.slice sa sl.length sc) (stepW fs sl x p).1 (stepW fs sl x p).2 L W e w1)):=hid7 (hS.mono fun e w1 ⟨q1,q2,q3,q4⟩=>⟨q1,hid7 ⟨q1,q2,(b1.mono (Nat.le_of_lt hlt)).trans q3,(Mv7.below b1).trans q4⟩⟩)
  clear hS h1 h hK hx b1 bS e1
  generalize (stepW fs sl x p).1=er at HS hne ⊢
  generalize (stepW fs sl x p).2=p2 at HS ⊢
  generalize (Value.slice fa fs.length fc)=fv at HS ⊢
  generalize (Value.slice sa sl.length sc)=sv at HS ⊢
  obtain ⟨n,A⟩:=x
  simp only at HS ⊢
  go_enter Tryz.func112,Tryz.ntmps112
  go_wp2_with (first | (go_at_call 152;refine HS.out.mono ?_;clear HS;rintro e w1 ⟨rfl,K1⟩) | fail)
  go_ret
  exact K1.out
 ·have e0:(stepW fs sl x p).1=0:=Decidable.byContradiction e1
  rw [if_neg e1]
  rw [e0] at hS
  obtain ⟨T,hT⟩:∃ T,T=turnW x.1 (stepW fs sl x p).2 L:=⟨_,rfl⟩
  rw [← hT]
  obtain ⟨er,p2,L2⟩:=T
  simp only
  have HS:Hid (Calls Tryz.prog 152 #[.pointer (some ⟨wb,0,none⟩),.agg #[.int .i64 x.1,.int .i64 x.2]] (W.alloc (.cells #[.int .i64 x.1,.int .i64 x.2] 74)) fun e w1=>e=.returned (.int .i64 0)∧w1.cell? ⟨W.heap.size,0,none⟩=some (.int .i64 x.1) ∧
    Hid (Calls Tryz.prog 153 #[.pointer (some ⟨wb,0,none⟩),.int .i64 x.1] w1 fun e w2=>e=.returned (.int .i64 er)∧∃ a2 c2,w2.cell? ⟨wb,2,none⟩=some (.slice a2 p2.length c2)∧Hid (∀ e' r,e'=.returned (.int .i64 r)→WEnd wb (.slice fa fs.length fc) (.slice sa sl.length sc) r p2 L2 W e' w2))):=hid7 (hS.mono fun e w1 ⟨q1,⟨a1,c1,la1,lc1,bs1,q2⟩,q3,q4⟩=>by
   have e2:(W.alloc (.cells #[.int .i64 x.1,.int .i64 x.2] 74)).heap[W.heap.size]?=some (.cells #[.int .i64 x.1,.int .i64 x.2] 74 (0,0)):=heap_alloc_new W _
   have e3:=q4.2 _ _ _ _ (by decide) (by decide) (by decide) e2
   refine ⟨q1,by simp [World.cell?,e3],hid7 ?_⟩
   have hTn:=turn7_any x.1 ho bS bb bm w1 q2
   rw [← hT] at hTn
   refine hTn.mono fun e4 w2 ⟨r1,⟨a2,c2,la2,lc2,bs2,r2⟩,r3,r4⟩=>?_
   refine ⟨r1,a2,c2,(four_cell r2.box).1.2.2.1,hid7 fun e' r he'=>⟨he',⟨_,_,_,_,_,r2⟩,?_,?_⟩⟩
   ·exact ((b1.mono (Nat.le_of_lt hlt)).trans q3).trans r3
   ·exact ((Mv7.below b1).trans q4).trans r4)
  have hp2:p2.length≤2000:=by
   have:p2=(turnW x.1 (stepW fs sl x p).2 L).2.1:=by rw [← hT]
   rw [this]
   unfold turnW
   split
   ·show (stepW fs sl x p).2.length≤2000;omega
   split
   ·cases hl:L.getLast? with
    | none=>show (stepW fs sl x p).2.length≤2000;omega
    | some b =>
     have:=(bb b (List.mem_of_getLast? hl)).1
     show b.en.length≤2000;omega
   split
   ·cases L.getLast? <;> (show (stepW fs sl x p).2.length≤2000;omega)
   split
   ·cases (lpIx L).bind (fun i=>L[i]?) <;> (show (stepW fs sl x p).2.length≤2000;omega)
   ·show (stepW fs sl x p).2.length≤2000;omega
  clear hS h1 h hK hx b1 bS e1 e0 hT ho bb
  generalize (Value.slice fa fs.length fc)=fv at HS ⊢
  generalize (Value.slice sa sl.length sc)=sv at HS ⊢
  obtain ⟨pl,hpl⟩:∃ pl,pl=p2.length:=⟨_,rfl⟩
  rw [← hpl] at HS hp2 ⊢
  clear hpl
  obtain ⟨n,A⟩:=x
  simp only at HS ⊢
  by_cases g1:er≠0
  ·rw [if_pos g1]
   have hne:(er != 0)=true:=by simpa using g1
   clear g1
   go_enter Tryz.func112,Tryz.ntmps112
   go_wp2_with (first | (go_at_call 152;refine HS.out.mono ?_;clear HS;rintro e w1 ⟨rfl,d0,hT⟩) | (go_at_call 153;refine hT.out.mono ?_;clear hT;rintro e w2 ⟨rfl,a2,c2,d2,K1⟩) | fail)
   go_ret
   exact K1.out _ _ rfl
  ·have g0:er=0:=Decidable.byContradiction g1
   subst g0
   rw [if_neg (by simp)]
   by_cases g2:(32:Int)<pl
   ·rw [if_pos (by omega)]
    go_enter Tryz.func112,Tryz.ntmps112
    go_wp2_with (first | (go_at_call 152;refine HS.out.mono ?_;clear HS;rintro e w1 ⟨rfl,d0,hT⟩) | (go_at_call 153;refine hT.out.mono ?_;clear hT;rintro e w2 ⟨rfl,a2,c2,d2,K1⟩) | fail)
    go_ret
    exact K1.out _ _ rfl
   ·rw [if_neg (by omega)]
    go_enter Tryz.func112,Tryz.ntmps112
    go_wp2_with (first | (go_at_call 152;refine HS.out.mono ?_;clear HS;rintro e w1 ⟨rfl,d0,hT⟩) | (go_at_call 153;refine hT.out.mono ?_;clear hT;rintro e w2 ⟨rfl,a2,c2,d2,K1⟩) | fail)
    go_ret
    exact K1.out _ _ rfl
end Go.Proofs.YtpmlnkjamhelnaaGreat
namespace Go.Proofs.YtpmlnkjamhelnaaGreat
theorem gset (ms:List Int)(i j:Nat)(v:Int)(hj:j<ms.length):(ms.set i v).getD j 0=if i=j then v else ms.getD j 0:=by
 rw [List.getD_eq_getElem?_getD,List.getElem?_set]
 split
 ·rename_i h
  subst h
  rw [if_pos hj]
  rfl
 ·rw [← List.getD_eq_getElem?_getD]
structure Inv (op:Nat→Int)(k:Nat)(L:List Blk)(ms:List Int):Prop where
 blk:∀ b ∈ L,∃ s:Nat,b.s=s∧s<k∧op s=(if b.l=true then 51 else 48)∧(b.o=-1∨∃ o:Nat,b.o=o∧s<o∧o<k∧op o=49∧b.l=false)
 ends:∀ j,j<k→op j=50→0≤ms.getD j 0∧ms.getD j 0<j
 opn:∀ j,j<k→(op j=48∨op j=49∨op j=51)→(∃ b ∈ L,b.s=j∨b.o=j)∨((j:Int)<ms.getD j 0∧ms.getD j 0<k)
 lev:∀ j,j<k→op j=52→∃ s:Nat,ms.getD j 0=s∧s<j∧op s=51∧((∃ b ∈ L,b.s=s)∨(j:Int)<ms.getD s 0)
theorem pair_get {ms:List Int}{s t j:Nat}{o:Option Nat}(hj:j<ms.length)(hst:s≠t)(ho:∀ x,o=some x→x≠s∧x≠t):(pairS ms s o t).getD j 0=if j=t then (s:Int) else if j=s then ((o.getD t:Nat):Int) else if some j=o then (t:Int) else ms.getD j 0:=by
 cases o with
 | none =>
  simp only [pairS]
  rw [gset _ _ _ _ (by simpa using hj),gset _ _ _ _ hj]
  by_cases h1:j=t
  ·subst h1;simp
  ·rw [if_neg (fun h=>h1 h.symm),if_neg h1]
   by_cases h2:j=s
   ·subst h2;simp
   ·rw [if_neg (fun h=>h2 h.symm),if_neg h2];simp
 | some x =>
  obtain ⟨x1,x2⟩:=ho x rfl
  simp only [pairS]
  rw [gset _ _ _ _ (by simpa using hj),gset _ _ _ _ (by simpa using hj),gset _ _ _ _ (by simpa using hj),gset _ _ _ _ hj]
  by_cases h1:j=t
  ·subst h1
   rw [if_neg x2,if_neg hst,if_pos rfl,if_pos rfl]
  ·by_cases h2:j=s
   ·subst h2
    rw [if_neg x1,if_pos rfl,if_neg h1,if_pos rfl];rfl
   ·by_cases h3:x=j
    ·subst h3
     rw [if_pos rfl,if_neg h1,if_neg h2,if_pos rfl]
    ·rw [if_neg h3,if_neg (fun h=>h2 h.symm),if_neg (fun h=>h1 h.symm),if_neg (fun h=>h2 h.symm),if_neg h1,if_neg h2,if_neg (fun h=>h3 (Option.some.inj h).symm)]
def opA (cs:List (Int × Int))(j:Nat):Int:=(opsI cs).getD j 0
theorem lead_get (ops ms:List Int)(hm:∀ j,ops[j]?=some 52→ops[(ms.getD j 0).toNat]?≠some 52)(hlen:ms.length=ops.length):∀ k j,k≤ops.length→(leadS ops ms k).getD j 0=if j<k∧ops[j]?=some 52 then ms.getD (ms.getD j 0).toNat 0 else ms.getD j 0
 | 0,j,_=>by rw [if_neg (by omega)];rfl
 | k+1,j,hk=>by
  have ih:=lead_get ops ms hm hlen k
  simp only [leadS]
  split
  ·rename_i hop
   by_cases h1:j=k
   ·subst h1
    rw [gset _ _ _ _ (by rw [leadS_len];omega),if_pos rfl,if_pos ⟨Nat.lt_succ_self _,hop⟩]
    rw [leadS_same ops ms j j (Nat.le_refl _),ih _ (by omega),if_neg (fun h=>hm j hop h.2)]
   ·rw [List.getD_eq_getElem?_getD,List.getElem?_set_ne (by omega),← List.getD_eq_getElem?_getD,ih j (by omega)]
    by_cases h2:j<k
    ·by_cases h3:ops[j]?=some 52
     ·rw [if_pos ⟨h2,h3⟩,if_pos ⟨by omega,h3⟩]
     ·rw [if_neg (fun h=>h3 h.2),if_neg (fun h=>h3 h.2)]
    ·rw [if_neg (by omega),if_neg (by omega)]
  ·rename_i hop
   rw [ih j (by omega)]
   by_cases h3:ops[j]?=some 52
   ·have:j≠k:=by rintro rfl;exact hop h3
    by_cases h2:j<k
    ·rw [if_pos ⟨h2,h3⟩,if_pos ⟨by omega,h3⟩]
    ·rw [if_neg (by omega),if_neg (by omega)]
   ·rw [if_neg (fun h=>h3 h.2),if_neg (fun h=>h3 h.2)]
theorem opsI_len (cs:List (Int × Int)):(opsI cs).length=cs.length:=by simp [opsI]
theorem ops_some {cs:List (Int × Int)}{j:Nat}(hj:j<cs.length):(opsI cs)[j]?=some (opA cs j):=by
 rw [opA,List.getD_eq_getElem?_getD,List.getElem?_eq_getElem (by rw [opsI_len];exact hj)]
 rfl
theorem matchS_len (cs:List (Int × Int)):(matchS cs).length=cs.length:=by rw [matchS,leadS_len,mst_len]
end Go.Proofs.YtpmlnkjamhelnaaGreat
namespace Go.Proofs.YtpmlnkjamhelnaaGreat
def closeS (op:Nat→Int)(f:Bool):Nat→Nat→Nat→Int→Int × Int
 | 0,_,_,o=>(o,-1)
 | m+1,j,d,o =>
  if op j=48∨op j=51 then closeS op f m (j+1) (d+1) o
  else if op j=49 then (if d=0 then (if 0≤o∨f=false then (-1,-1) else closeS op f m (j+1) 0 j) else closeS op f m (j+1) d o)
  else if op j=50 then (if d=0 then (o,(j:Int)) else closeS op f m (j+1) (d - 1) o)
  else closeS op f m (j+1) d o
def closeAt (op:Nat→Int)(n i:Nat):Int × Int:=closeS op (decide (op i=48)) (n - (i+1)) (i+1) 0 (-1)
def stk (op:Nat→Int):Nat→List Blk
 | 0=>[]
 | k+1=>stepS (op k) k (stk op k)
def standN (n:Int)(L:List Blk):Bool :=
 if n=49 then (match L.getLast? with | none=>false | some b=>!b.l && decide (b.o=-1))
 else if n=50 then decide (0<L.length)
 else true
def NestTo (op:Nat→Int)(k:Nat):Prop:=∀ j,j<k→standN (op j) (stk op j)=true
def Top (op:Nat→Int)(x i:Nat):Prop:=∃ A b,stk op x=A++[b]∧b.s=(i:Int)
theorem Top.uniq {op:Nat→Int}{x i j:Nat}(h:Top op x i)(k:Top op x j):i=j:=by
 obtain ⟨A,b,h1,h2⟩:=h
 obtain ⟨A',b',k1,k2⟩:=k
 have:=(List.append_inj' (h1.symm.trans k1) rfl).2
 have e:b=b':=by simpa using this
 subst e
 omega
abbrev Opn (op:Nat→Int)(j:Nat):Prop:=op j=48∨op j=51
structure Closed (op:Nat→Int)(n s:Nat)(o:Int)(e:Nat):Prop where
 opn:Opn op s
 at':closeAt op n s=(o,(e:Int))
 lt:s<e
 end':op e=50
 top:Top op e s
 els:o=-1∨∃ x:Nat,o=x∧s<x∧x<e∧op x=49∧Top op x s∧op s=48
theorem snoc_cut {A M R:List Blk}{b c:Blk}(h:M++[c]=A++b :: R):(R=[]∧b=c∧A=M)∨∃ R',R=R'++[c]∧M=A++b :: R':=by
 rcases List.eq_nil_or_concat R with rfl | ⟨R',r,rfl⟩
 ·obtain ⟨h1,h2⟩:=List.append_inj' h rfl
  exact .inl ⟨rfl,by simpa using h2.symm,h1.symm⟩
 ·rw [List.concat_eq_append] at h ⊢
  rw [show A++b :: (R'++[r])=(A++b :: R')++[r] by simp] at h
  obtain ⟨h1,h2⟩:=List.append_inj' h rfl
  have:c=r:=by simpa using h2
  subst this
  exact .inr ⟨R',rfl,h1⟩
structure CI (op:Nat→Int)(n k:Nat):Prop where
 blk:∀ (A:List Blk) (b:Blk) (R:List Blk),stk op k=A++b :: R→∃ i:Nat,b.s=i∧i<k∧Opn op i∧b.l=decide (op i=51)∧stk op i=A∧(b.o=-1∨∃ x:Nat,b.o=x∧i<x∧x<k∧op x=49∧Top op x i∧op i=48)∧closeAt op n i=closeS op (decide (op i=48)) (n - k) k R.length b.o
 opn:∀ j:Nat,j<k→Opn op j→(∃ b ∈ stk op k,b.s=j)∨∃ o e,e<k∧Closed op n j o e
 els:∀ j:Nat,j<k→op j=49→(∃ b ∈ stk op k,b.o=j)∨∃ s e,e<k∧Closed op n s j e
 ends:∀ j:Nat,j<k→op j=50→∃ s o,Closed op n s o j
theorem closeS_succ {op:Nat→Int}{f:Bool}{n k d:Nat}{o:Int}(hk:k<n):closeS op f (n - k) k d o =
  if op k=48∨op k=51 then closeS op f (n - (k+1)) (k+1) (d+1) o
  else if op k=49 then (if d=0 then (if 0≤o∨f=false then (-1,-1) else closeS op f (n - (k+1)) (k+1) 0 k) else closeS op f (n - (k+1)) (k+1) d o)
  else if op k=50 then (if d=0 then (o,(k:Int)) else closeS op f (n - (k+1)) (k+1) (d - 1) o)
  else closeS op f (n - (k+1)) (k+1) d o:=by
 have:n - k=(n - (k+1))+1:=by omega
 rw [this,closeS]
theorem CI.next {op:Nat→Int}{n k:Nat}(hk:k<n)(h:CI op n k)(hs:standN (op k) (stk op k)=true):CI op n (k+1):=by
 by_cases h1:op k=48∨op k=51
 ·have e1:stk op (k+1)=stk op k++[⟨k,-1,decide (op k=51)⟩]:=by simp only [stk,stepS,if_pos h1]
  refine ⟨fun A b R hA=>?_,fun j hj e=>?_,fun j hj e=>?_,fun j hj e=>?_⟩
  ·rw [e1] at hA
   rcases snoc_cut hA with ⟨rfl,rfl,rfl⟩ | ⟨R',rfl,hM⟩
   ·exact ⟨k,rfl,by omega,h1,rfl,rfl,.inl rfl,rfl⟩
   ·obtain ⟨i,a1,a2,a3,a4,a5,a6,a7⟩:=h.blk A b R' hM
    refine ⟨i,a1,by omega,a3,a4,a5,?_,?_⟩
    ·rcases a6 with a6 | ⟨x,b1,b2,b3,b4⟩
     ·exact .inl a6
     ·exact .inr ⟨x,b1,b2,by omega,b4⟩
    ·rw [a7,closeS_succ hk,if_pos h1,List.length_append];rfl
  ·by_cases hjk:j=k
   ·subst hjk;exact .inl ⟨_,by rw [e1];exact List.mem_append_right _ (List.mem_singleton.2 rfl),rfl⟩
   ·rcases h.opn j (by omega) e with ⟨b,c1,c2⟩ | ⟨o,x,c1,c2⟩
    ·exact .inl ⟨b,by rw [e1];exact List.mem_append_left _ c1,c2⟩
    ·exact .inr ⟨o,x,by omega,c2⟩
  ·have hjk:j≠k:=by rintro rfl;omega
   rcases h.els j (by omega) e with ⟨b,c1,c2⟩ | ⟨o,x,c1,c2⟩
   ·exact .inl ⟨b,by rw [e1];exact List.mem_append_left _ c1,c2⟩
   ·exact .inr ⟨o,x,by omega,c2⟩
  ·have hjk:j≠k:=by rintro rfl;omega
   exact h.ends j (by omega) e
 by_cases h2:op k=49
 ·rcases List.eq_nil_or_concat (stk op k) with hL | ⟨M,b0,hL⟩
  ·rw [hL] at hs;simp [standN,h2] at hs
  rw [List.concat_eq_append] at hL
  have hb0:b0.l=false∧b0.o=-1:=by rw [hL] at hs;simpa [standN,h2] using hs
  have e1:stk op (k+1)=M++[⟨b0.s,k,b0.l⟩]:=by rw [stk,hL,h2];simp [stepS]
  obtain ⟨i0,p1,p2,p3,p4,p5,_,p7⟩:=h.blk M b0 [] hL
  have hi48:op i0=48:=by
   rcases p3 with p3 | p3
   ·exact p3
   ·rw [hb0.1] at p4;simp [p3] at p4
  refine ⟨fun A b R hA=>?_,fun j hj e=>?_,fun j hj e=>?_,fun j hj e=>?_⟩
  ·rw [e1] at hA
   rcases snoc_cut hA with ⟨rfl,rfl,rfl⟩ | ⟨R',rfl,hM⟩
   ·refine ⟨i0,p1,by omega,p3,p4,p5,.inr ⟨k,rfl,p2,by omega,h2,⟨_,_,hL,p1⟩,hi48⟩,?_⟩
    rw [p7,closeS_succ hk,if_neg h1,if_pos h2,if_pos (by rfl),if_neg (by rw [hb0.2,hi48];simp)];rfl
   ·obtain ⟨i,a1,a2,a3,a4,a5,a6,a7⟩:=h.blk A b (R'++[b0]) (by rw [hL,hM];simp)
    refine ⟨i,a1,by omega,a3,a4,a5,?_,?_⟩
    ·rcases a6 with a6 | ⟨x,b1,b2,b3,b4⟩
     ·exact .inl a6
     ·exact .inr ⟨x,b1,b2,by omega,b4⟩
    ·rw [a7,closeS_succ hk,if_neg h1,if_pos h2,if_neg (by simp)];simp
  ·have hjk:j≠k:=by rintro rfl;exact h1 e
   rcases h.opn j (by omega) e with ⟨b,c1,c2⟩ | ⟨o,x,c1,c2⟩
   ·rw [hL] at c1
    rcases List.mem_append.1 c1 with c1 | c1
    ·exact .inl ⟨b,by rw [e1];exact List.mem_append_left _ c1,c2⟩
    ·rw [List.mem_singleton] at c1
     subst c1
     exact .inl ⟨⟨b.s,k,b.l⟩,by rw [e1];exact List.mem_append_right _ (List.mem_singleton.2 rfl),c2⟩
   ·exact .inr ⟨o,x,by omega,c2⟩
  ·by_cases hjk:j=k
   ·subst hjk;exact .inl ⟨_,by rw [e1];exact List.mem_append_right _ (List.mem_singleton.2 rfl),rfl⟩
   ·rcases h.els j (by omega) e with ⟨b,c1,c2⟩ | ⟨o,x,c1,c2⟩
    ·rw [hL] at c1
     rcases List.mem_append.1 c1 with c1 | c1
     ·exact .inl ⟨b,by rw [e1];exact List.mem_append_left _ c1,c2⟩
     ·rw [List.mem_singleton] at c1
      subst c1
      omega
    ·exact .inr ⟨o,x,by omega,c2⟩
  ·have hjk:j≠k:=by rintro rfl;omega
   exact h.ends j (by omega) e
 by_cases h3:op k=50
 ·rcases List.eq_nil_or_concat (stk op k) with hL | ⟨M,b0,hL⟩
  ·rw [hL] at hs;simp [standN,h3] at hs
  rw [List.concat_eq_append] at hL
  have e1:stk op (k+1)=M:=by rw [stk,hL,h3];simp [stepS]
  obtain ⟨i0,p1,p2,p3,p4,p5,p6,p7⟩:=h.blk M b0 [] hL
  have hC:Closed op n i0 b0.o k:=by
   refine ⟨p3,?_,p2,h3,⟨_,_,hL,p1⟩,p6⟩
   rw [p7,closeS_succ hk,if_neg h1,if_neg h2,if_pos h3,if_pos (by rfl)]
  refine ⟨fun A b R hA=>?_,fun j hj e=>?_,fun j hj e=>?_,fun j hj e=>?_⟩
  ·rw [e1] at hA
   obtain ⟨i,a1,a2,a3,a4,a5,a6,a7⟩:=h.blk A b (R++[b0]) (by rw [hL,hA];simp)
   refine ⟨i,a1,by omega,a3,a4,a5,?_,?_⟩
   ·rcases a6 with a6 | ⟨x,b1,b2,b3,b4⟩
    ·exact .inl a6
    ·exact .inr ⟨x,b1,b2,by omega,b4⟩
   ·rw [a7,closeS_succ hk,if_neg h1,if_neg h2,if_pos h3,if_neg (by simp)];simp
  ·have hjk:j≠k:=by rintro rfl;exact h1 e
   rcases h.opn j (by omega) e with ⟨b,c1,c2⟩ | ⟨o,x,c1,c2⟩
   ·rw [hL] at c1
    rcases List.mem_append.1 c1 with c1 | c1
    ·exact .inl ⟨b,by rw [e1];exact c1,c2⟩
    ·rw [List.mem_singleton] at c1
     subst c1
     have:i0=j:=by omega
     subst this
     exact .inr ⟨_,k,by omega,hC⟩
   ·exact .inr ⟨o,x,by omega,c2⟩
  ·have hjk:j≠k:=by rintro rfl;omega
   rcases h.els j (by omega) e with ⟨b,c1,c2⟩ | ⟨o,x,c1,c2⟩
   ·rw [hL] at c1
    rcases List.mem_append.1 c1 with c1 | c1
    ·exact .inl ⟨b,by rw [e1];exact c1,c2⟩
    ·rw [List.mem_singleton] at c1
     subst c1
     rw [c2] at hC
     exact .inr ⟨_,k,by omega,hC⟩
   ·exact .inr ⟨o,x,by omega,c2⟩
  ·by_cases hjk:j=k
   ·subst hjk;exact ⟨_,_,hC⟩
   ·exact h.ends j (by omega) e
 have e1:stk op (k+1)=stk op k:=by simp only [stk,stepS,if_neg h1,if_neg h2,if_neg h3]
 refine ⟨fun A b R hA=>?_,fun j hj e=>?_,fun j hj e=>?_,fun j hj e=>?_⟩
 ·rw [e1] at hA
  obtain ⟨i,a1,a2,a3,a4,a5,a6,a7⟩:=h.blk A b R hA
  refine ⟨i,a1,by omega,a3,a4,a5,?_,?_⟩
  ·rcases a6 with a6 | ⟨x,b1,b2,b3,b4⟩
   ·exact .inl a6
   ·exact .inr ⟨x,b1,b2,by omega,b4⟩
  ·rw [a7,closeS_succ hk,if_neg h1,if_neg h2,if_neg h3]
 ·have hjk:j≠k:=by rintro rfl;exact h1 e
  rw [e1]
  rcases h.opn j (by omega) e with c | ⟨o,x,c1,c2⟩
  ·exact .inl c
  ·exact .inr ⟨o,x,by omega,c2⟩
 ·have hjk:j≠k:=by rintro rfl;omega
  rw [e1]
  rcases h.els j (by omega) e with c | ⟨o,x,c1,c2⟩
  ·exact .inl c
  ·exact .inr ⟨o,x,by omega,c2⟩
 ·have hjk:j≠k:=by rintro rfl;omega
  exact h.ends j (by omega) e
theorem ci_all {op:Nat→Int}{n:Nat}:∀ k,k≤n→NestTo op k→CI op n k
 | 0,_,_=>⟨fun A b R h=>by simp [stk] at h,fun j h=>by omega,fun j h=>by omega,fun j h=>by omega⟩
 | k+1,hk,h=>(ci_all k (by omega) (fun j hj=>h j (by omega))).next (by omega) (h k (by omega))
theorem closeS_rng {op:Nat→Int}{f:Bool}:∀ m j d o,((closeS op f m j d o).2=-1∨(j:Int)≤(closeS op f m j d o).2∧(closeS op f m j d o).2<j+m)∧((closeS op f m j d o).1=-1∨(closeS op f m j d o).1=o∨(j:Int)≤(closeS op f m j d o).1∧(closeS op f m j d o).1<j+m)
 | 0,j,d,o=>⟨.inl rfl,.inr (.inl rfl)⟩
 | m+1,j,d,o=>by
  have ih:∀ d o,_:=closeS_rng (op:=op) (f:=f) m (j+1)
  rw [closeS]
  split
  ·have:=ih (d+1) o;omega
  split
  ·split
   ·split
    ·exact ⟨.inl rfl,.inl rfl⟩
    ·have:=ih 0 j;omega
   ·have:=ih d o;omega
  split
  ·split
   ·exact ⟨.inr ⟨Int.le_refl _,by simp;omega⟩,.inr (.inl rfl)⟩
   ·have:=ih (d - 1) o;omega
  ·have:=ih d o;omega
end Go.Proofs.YtpmlnkjamhelnaaGreat
namespace Go.Proofs.YtpmlnkjamhelnaaGreat
def docStep (op:Nat→Int)(n:Nat)(m:List Int)(k:Nat):List Int :=
 if Opn op k then (if 0≤(closeAt op n k).1 then (((m.set k (closeAt op n k).2).set (closeAt op n k).2.toNat k).set k (closeAt op n k).1).set (closeAt op n k).1.toNat (closeAt op n k).2 else (m.set k (closeAt op n k).2).set (closeAt op n k).2.toNat k) else m
def docS (op:Nat→Int)(n:Nat):Nat→List Int
 | 0=>List.replicate n (-1)
 | k+1=>docStep op n (docS op n k) k
theorem docStep_len (op:Nat→Int)(n:Nat)(m:List Int)(k:Nat):(docStep op n m k).length=m.length:=by
 unfold docStep
 split
 ·split <;> simp
 ·rfl
theorem docS_len (op:Nat→Int)(n:Nat):∀ k,(docS op n k).length=n
 | 0=>by simp [docS]
 | k+1=>by rw [docS,docStep_len,docS_len op n k]
theorem docStep_get {op:Nat→Int}{n k p:Nat}{m:List Int}(hp:p<m.length):(docStep op n m k).getD p 0=if Opn op k then (if 0≤(closeAt op n k).1 then (if (closeAt op n k).1.toNat=p then (closeAt op n k).2 else if k=p then (closeAt op n k).1 else if (closeAt op n k).2.toNat=p then (k:Int) else m.getD p 0) else (if (closeAt op n k).2.toNat=p then (k:Int) else if k=p then (closeAt op n k).2 else m.getD p 0)) else m.getD p 0:=by
 unfold docStep
 split
 ·split
  ·rw [gset _ _ _ _ (by simpa using hp),gset _ _ _ _ (by simpa using hp),gset _ _ _ _ (by simpa using hp),gset _ _ _ _ hp]
   split
   ·rfl
   split
   ·rfl
   split
   ·rfl
   ·rfl
  ·rw [gset _ _ _ _ (by simpa using hp),gset _ _ _ _ hp]
 ·rfl
theorem docS_claim {op:Nat→Int}{n p:Nat}(hp:p<n):∀ k,0≤(docS op n k).getD p 0→∃ s,s<k∧Opn op s∧(p=s∨(closeAt op n s).2.toNat=p∨0≤(closeAt op n s).1∧(closeAt op n s).1.toNat=p)
 | 0,h=>by
  have e:(docS op n 0).getD p 0=-1:=by simp [docS,List.getD_eq_getElem?_getD,hp]
  omega
 | k+1,h=>by
  have ih:=docS_claim (op:=op) hp k
  rw [docS,docStep_get (by rw [docS_len];exact hp)] at h
  have old:0≤(docS op n k).getD p 0→∃ s,s<k+1∧Opn op s∧(p=s∨(closeAt op n s).2.toNat=p∨0≤(closeAt op n s).1∧(closeAt op n s).1.toNat=p):=fun h=>by
   obtain ⟨s,a,b⟩:=ih h
   exact ⟨s,by omega,b⟩
  split at h
  ·rename_i ho
   split at h
   ·split at h
    ·exact ⟨k,by omega,ho,.inr (.inr ⟨by assumption,by assumption⟩)⟩
    split at h
    ·exact ⟨k,by omega,ho,.inl (by omega)⟩
    split at h
    ·exact ⟨k,by omega,ho,.inr (.inl (by assumption))⟩
    ·exact old h
   ·split at h
    ·exact ⟨k,by omega,ho,.inr (.inl (by assumption))⟩
    split at h
    ·exact ⟨k,by omega,ho,.inl (by omega)⟩
    ·exact old h
  ·exact old h
theorem closeAt_rng (op:Nat→Int)(n s:Nat):((closeAt op n s).2=-1∨(s:Int)<(closeAt op n s).2∧((closeAt op n s).2<n))∧((closeAt op n s).1=-1∨(s:Int)<(closeAt op n s).1∧((closeAt op n s).1<n)):=by
 have:=closeS_rng (op:=op) (f:=decide (op s=48)) (n - (s+1)) (s+1) 0 (-1)
 unfold closeAt
 omega
theorem unclaimed {op:Nat→Int}{n k:Nat}(hk:k<n)(C:CI op n k)(hL:stk op k=[])(ho:op k=49∨op k=50)(h1:∀ i,i<n→Opn op i→0≤(closeAt op n i).2):¬ 0≤(docS op n n).getD k 0:=by
 intro h
 obtain ⟨s,a1,a2,a3⟩:=docS_claim hk n h
 have hne:s≠k:=by rintro rfl;unfold Opn at a2;omega
 by_cases hsk:s<k
 ·rcases C.opn s hsk a2 with ⟨b,hb,_⟩ | ⟨o,e,he,hC⟩
  ·rw [hL] at hb;cases hb
  ·rw [hC.at'] at a3
   simp only at a3
   rcases hC.els with c | ⟨x,c1,c2,c3,_⟩
   ·omega
   ·omega
 ·have:=closeAt_rng op n s
  have:=h1 s a1 a2
  omega
theorem nest_of {op:Nat→Int}{n:Nat}(h1:∀ i,i<n→Opn op i→0≤(closeAt op n i).2)(h2:∀ j,j<n→op j=49∨op j=50→0≤(docS op n n).getD j 0):NestTo op n∧stk op n=[]:=by
 have hN:∀ k,k≤n→NestTo op k:=by
  intro k
  induction k with
  | zero=>intro _ j hj;omega
  | succ k ih =>
   intro hk j hj
   have hk':=ih (by omega)
   by_cases hjk:j<k
   ·exact hk' j hjk
   have hjk:j=k:=by omega
   subst hjk
   have C:=ci_all (n:=n) j (by omega) hk'
   by_cases h49:op j=49
   ·rcases List.eq_nil_or_concat (stk op j) with hL | ⟨M,b,hL⟩
    ·exact absurd (h2 j (by omega) (.inl h49)) (unclaimed (by omega) C hL (.inl h49) h1)
    rw [List.concat_eq_append] at hL
    obtain ⟨i,p1,p2,p3,p4,p5,p6,p7⟩:=C.blk M b [] hL
    have hh:=h1 i (by omega) p3
    rw [p7,closeS_succ (by omega),if_neg (by omega),if_pos h49,if_pos (by rfl)] at hh
    by_cases hc:0≤b.o∨decide (op i=48)=false
    ·rw [if_pos hc] at hh;simp at hh
    ·have c1:b.o=-1:=by rcases p6 with p6 | ⟨x,p6,_⟩ <;> omega
     have c2:op i=48:=by
      by_cases h:op i=48
      ·exact h
      ·exact absurd (.inr (by simp [h])) hc
     have c3:b.l=false:=by rw [p4,c2];decide
     rw [hL]
     simp [standN,h49,c1,c3]
   by_cases h50:op j=50
   ·rcases List.eq_nil_or_concat (stk op j) with hL | ⟨M,b,hL⟩
    ·exact absurd (h2 j (by omega) (.inr h50)) (unclaimed (by omega) C hL (.inr h50) h1)
    rw [List.concat_eq_append] at hL
    rw [hL]
    simp [standN,h50]
   ·simp [standN,h49,h50]
 refine ⟨hN n (Nat.le_refl _),?_⟩
 rcases List.eq_nil_or_concat (stk op n) with hL | ⟨M,b,hL⟩
 ·exact hL
 rw [List.concat_eq_append] at hL
 obtain ⟨i,p1,p2,p3,p4,p5,p6,p7⟩:=(ci_all (n:=n) n (Nat.le_refl _) (hN n (Nat.le_refl _))).blk M b [] hL
 have hh:=h1 i p2 p3
 rw [p7,Nat.sub_self,closeS] at hh
 simp at hh
structure Nest (op:Nat→Int)(n:Nat):Prop where
 nst:NestTo op n
 nil:stk op n=[]
theorem Nest.ci {op:Nat→Int}{n:Nat}(h:Nest op n)(k:Nat)(hk:k≤n):CI op n k:=ci_all k hk fun j hj=>h.nst j (by omega)
theorem Nest.opn {op:Nat→Int}{n s:Nat}(h:Nest op n)(hs:s<n)(ho:Opn op s):∃ o e,e<n∧Closed op n s o e:=by
 rcases (h.ci n (Nat.le_refl _)).opn s hs ho with ⟨b,hb,_⟩ | hh
 ·rw [h.nil] at hb;cases hb
 ·exact hh
theorem Nest.els {op:Nat→Int}{n j:Nat}(h:Nest op n)(hs:j<n)(ho:op j=49):∃ s e,e<n∧Closed op n s j e:=by
 rcases (h.ci n (Nat.le_refl _)).els j hs ho with ⟨b,hb,_⟩ | hh
 ·rw [h.nil] at hb;cases hb
 ·exact hh
theorem Nest.ends {op:Nat→Int}{n j:Nat}(h:Nest op n)(hs:j<n)(ho:op j=50):∃ s o,Closed op n s o j:=(h.ci n (Nat.le_refl _)).ends j hs ho
def Fit (op:Nat→Int)(n:Nat)(P:Nat→Nat→Prop)(m:Nat→Int):Prop:=∀ s o e,Closed op n s o e→P s e→e<n→m e=s∧m s=(if o=-1 then (e:Int) else o)∧∀ x:Nat,o=x→m x=e
theorem Closed.uniq {op:Nat→Int}{n s e e':Nat}{o o':Int}(h:Closed op n s o e)(h':Closed op n s o' e'):o=o'∧e=e':=by
 have:=h.at'.symm.trans h'.at'
 simp only [Prod.mk.injEq] at this
 omega
theorem Closed.els' {op:Nat→Int}{n s e x:Nat}{o:Int}(h:Closed op n s o e)(hx:o=x):s<x∧x<e∧op x=49∧Top op x s:=by
 rcases h.els with c | ⟨y,c1,c2,c3,c4,c5,_⟩
 ·omega
 ·have:x=y:=by omega
  subst this
  exact ⟨c2,c3,c4,c5⟩
theorem docFit {op:Nat→Int}{n:Nat}(N:Nest op n):∀ k,k≤n→Fit op n (fun s _=>s<k) (fun j=>(docS op n k).getD j 0)
 | 0,_=>fun s o e _ h=>by omega
 | k+1,hk=>by
  have ih:=docFit N k (by omega)
  intro s o e hC hs he
  have hlt:=hC.lt
  have hg:∀ p,p<n→(docS op n (k+1)).getD p 0=_:=fun p hp=>by rw [docS,docStep_get (by rw [docS_len];exact hp)]
  by_cases ho:Opn op k
  ·obtain ⟨o',e',he',hC'⟩:=N.opn (by omega) ho
   have hlt':=hC'.lt
   simp only [if_pos ho,hC'.at'] at hg
   by_cases hsk:s=k
   ·subst hsk
    obtain ⟨rfl,rfl⟩:=hC.uniq hC'
    have hx:∀ x:Nat,o=x→s<x∧x<e:=fun x hx=>⟨(hC.els' hx).1,(hC.els' hx).2.1⟩
    refine ⟨?_,?_,fun x ex=>?_⟩
    ·show (docS op n (s+1)).getD e 0=_
     rw [hg e he]
     split
     ·have:=hx o.toNat (by omega)
      rw [if_neg (by omega),if_neg (by omega),if_pos (by simp)]
     ·rw [if_pos (by simp)]
    ·show (docS op n (s+1)).getD s 0=_
     rw [hg s (by omega)]
     split
     ·have:=hx o.toNat (by omega)
      rw [if_neg (by omega),if_pos rfl,if_neg (by omega)]
     ·rw [if_neg (by simp;omega),if_pos rfl,if_pos (by rcases hC.els with c | ⟨x,c,_⟩ <;> omega)]
    ·show (docS op n (s+1)).getD x 0=_
     have:=hx x ex
     rw [hg x (by omega),if_pos (by omega),if_pos (by omega)]
   ·have hs':s<k:=by omega
    obtain ⟨i1,i2,i3⟩:=ih s o e hC hs' he
    have q1:=hC.end'
    have q2:=hC'.end'
    have q3:=hC.opn
    unfold Opn at ho q3
    have d1:e≠k:=by rintro rfl;omega
    have d2:e'≠e:=by rintro rfl;exact hsk (hC.top.uniq hC'.top)
    have d3:e'≠s:=by rintro rfl;omega
    have hx':0≤o'→o'.toNat≠e∧o'.toNat≠s∧∀ x:Nat,o=x→o'.toNat≠x:=by
     intro h0
     obtain ⟨c1,c2,c3,c4⟩:=hC'.els' (x:=o'.toNat) (by omega)
     refine ⟨fun h=>?_,fun h=>?_,fun x hx h=>?_⟩
     ·rw [h] at c3;omega
     ·rw [h] at c3;omega
     ·rw [h] at c4;exact hsk ((hC.els' hx).2.2.2.uniq c4)
    refine ⟨?_,?_,fun x ex=>?_⟩
    ·show (docS op n (k+1)).getD e 0=_
     rw [hg e he]
     split
     ·have:=hx' (by assumption)
      rw [if_neg this.1,if_neg (by omega),if_neg (by simpa using d2)];exact i1
     ·rw [if_neg (by simpa using d2),if_neg (by omega)];exact i1
    ·show (docS op n (k+1)).getD s 0=_
     rw [hg s (by omega)]
     split
     ·have:=hx' (by assumption)
      rw [if_neg this.2.1,if_neg (by omega),if_neg (by simpa using d3)];exact i2
     ·rw [if_neg (by simpa using d3),if_neg (by omega)];exact i2
    ·show (docS op n (k+1)).getD x 0=_
     obtain ⟨c1,c2,c3,c4⟩:=hC.els' ex
     have d4:k≠x:=by rintro rfl;omega
     have d5:e'≠x:=by rintro rfl;omega
     rw [hg x (by omega)]
     split
     ·have:=hx' (by assumption)
      rw [if_neg (this.2.2 x ex),if_neg (by simpa using d5)];exact i3 x ex
     ·rw [if_neg (by simpa using d5)];exact i3 x ex
  ·have hsk:s≠k:=by rintro rfl;exact ho hC.opn
   simp only [if_neg ho] at hg
   obtain ⟨i1,i2,i3⟩:=ih s o e hC (by omega) he
   refine ⟨(hg e he).trans i1,(hg s (by omega)).trans i2,fun x ex=>?_⟩
   have:=hC.els' ex
   exact (hg x (by omega)).trans (i3 x ex)
theorem docOth {op:Nat→Int}{n:Nat}(N:Nest op n):∀ k,k≤n→∀ j,j<n→¬ Opn op j→op j≠49→op j≠50→(docS op n k).getD j 0=-1
 | 0,_,j,hj,_,_,_=>by simp [docS,List.getD_eq_getElem?_getD,hj]
 | k+1,hk,j,hj,a,b,c=>by
  have ih:=docOth N k (by omega) j hj a b c
  rw [docS,docStep_get (by rw [docS_len];exact hj)]
  split
  ·rename_i ho
   obtain ⟨o',e',he',hC'⟩:=N.opn (by omega) ho
   rw [hC'.at']
   have d1:k≠j:=by rintro rfl;exact a ho
   have d2:e'≠j:=by rintro rfl;exact c hC'.end'
   simp only
   split
   ·have d3:o'.toNat≠j:=by rintro h;exact b (h ▸ (hC'.els' (x:=o'.toNat) (by omega)).2.2.1)
    rw [if_neg d3,if_neg (by simpa using d2)];exact ih
   ·rw [if_neg (by simpa using d2)];exact ih
  ·exact ih
end Go.Proofs.YtpmlnkjamhelnaaGreat
