/- Layer 9: bound.Funcs and bound.Total. Layer 9: bound.Funcs and bound.Total, of any script. Layer 9: bound.Total, of any script. -/
import Derived.Test.YtpmlnkjamhelnaaGreatXK
import Derived.Test.YtpmlnkjamhelnaaGreatYE
import Derived.Shelf.Abstract
import Derived.Test.YtpmlnkjamhelnaaGreatCB
namespace Go.Proofs.YtpmlnkjamhelnaaGreat
open Go.RowKit
def codeS (s:Scr)(f:Nat):List (Int × Int):=match s.funcs[f]? with | some g=>g.code | none=>[]
def bstep (s:Scr)(B:List Int)(f:Nat):List Int:=B.set f ((gasS B (codeS s f):Nat):Int)
def bndS (s:Scr)(o:List Nat):List Int:=o.foldl (bstep s) (List.replicate s.funcs.length 0)
def allGood (s:Scr):Bool:=s.funcs.all fun g=>goodS g.code
theorem bnd_snoc (s:Scr)(o:List Nat)(f:Nat):bndS s (o++[f])=bstep s (bndS s o) f:=by simp [bndS,List.foldl_append]
theorem bnd_len (s:Scr)(o:List Nat):(bndS s o).length=s.funcs.length:=by
 have:∀ (o:List Nat) (B:List Int),(o.foldl (bstep s) B).length=B.length:=by
  intro o
  induction o with
  | nil=>intro B;rfl
  | cons f o ih=>intro B;rw [List.foldl_cons,ih];simp [bstep]
 rw [bndS,this];simp
theorem code_good {s:Scr}(h:allGood s=true)(f:Nat):goodS (codeS s f)=true:=by
 unfold codeS
 split
 ·rename_i g hg
  exact List.all_eq_true.1 h g (List.mem_of_getElem? hg)
 ·rfl
def OkB (n:Nat)(B:List Int):Prop:=B.length=n∧∀ z ∈ B,0≤z∧z≤1048577
theorem okB_start (n:Nat):OkB n (List.replicate n 0):=⟨by simp,fun z hz=>by rw [(List.mem_replicate.1 hz).2];omega⟩
theorem okB_step {s:Scr}{n:Nat}{B:List Int}{f:Nat}(h:OkB n B)(hg:goodS (codeS s f)=true):OkB n (bstep s B f):=by
 refine ⟨by rw [bstep,List.length_set];exact h.1,fun z hz=>?_⟩
 rcases List.mem_or_eq_of_mem_set hz with hz | hz
 ·exact h.2 z hz
 ·have:=gas_le (cal:=B) hg
  unfold TM at this
  omega
theorem right_part {s:Scr}(hr:s.right=true){f:Nat}(hf:f<s.funcs.length){B:List Int}(hB:OkB s.funcs.length B):rightB (codeS s f) B=true:=by
 obtain ⟨_,_,r3⟩:=right_calls hr
 have hg:s.funcs[f] ∈ s.funcs:=List.getElem_mem hf
 have e:codeS s f=s.funcs[f].code:=by unfold codeS;rw [List.getElem?_eq_getElem hf]
 obtain ⟨_,r5⟩:=r3 _ hg
 have r6:∀ x ∈ s.funcs[f].code,x.1=51→0≤x.2:=fun x hx h51=>by
  simp only [Scr.right,Bool.and_eq_true,decide_eq_true_eq,List.all_eq_true] at hr
  obtain ⟨_,h3⟩:=hr
  have h4:=h3 _ hg
  simp only [Fn.right,Bool.and_eq_true,List.all_eq_true] at h4
  have:=h4.2 x hx
  simp only [insOk,Bool.and_eq_true,decide_eq_true_eq] at this
  obtain ⟨⟨_,i3⟩,_⟩:=this
  have e:takesN x.1=4:=by rw [h51];rfl
  rw [e] at i3
  simp [boundsN] at i3
  omega
 rw [e,rightB,Bool.and_eq_true,Bool.not_eq_true',Bool.not_eq_true',List.any_eq_false,List.any_eq_false]
 refine ⟨fun x hx=>?_,fun z hz=>?_⟩
 ·unfold wrong9
  split
  ·rename_i h53
   have:=r5 x hx h53
   rw [hB.1]
   simp
   omega
  ·split
   ·rename_i h51
    have:=r6 x hx h51
    simp
    omega
   ·simp
 ·have:=(hB.2 z hz).1
  simp [below9]
  omega
def funS (s:Scr):Int × List Int:=if s.right=true then (match ordS s.funcs.length (gF s) with
  | none=>(34,[])
  | some o=>if allGood s=true then (0,bndS s o) else (31,[]))
 else (30,[])
def FunEnd (R:Int × List Int)(w:World)(e:Ending)(w':World):Prop:=∃ a c,e=.returned (.tuple #[.slice a R.2.length c,.int .i64 R.1])∧NsAt w'.cell? a R.2∧Below w.heap.size w w'
theorem fun_no {s:Scr}(h:¬ s.right=true):funS s=(30,[]):=by rw [funS,if_neg h]
theorem fun_none {s:Scr}(h:s.right=true)(ho:ordS s.funcs.length (gF s)=none):funS s=(34,[]):=by rw [funS,if_pos h,ho]
theorem fun_bad {s:Scr}{o:List Nat}(h:s.right=true)(ho:ordS s.funcs.length (gF s)=some o)(hg:¬ allGood s=true):funS s=(31,[]):=by rw [funS,if_pos h,ho];simp only;rw [if_neg hg]
theorem fun_good {s:Scr}{o:List Nat}(h:s.right=true)(ho:ordS s.funcs.length (gF s)=some o)(hg:allGood s=true):funS s=(0,bndS s o):=by rw [funS,if_pos h,ho];simp only;rw [if_pos hg]
def totS (s:Scr):Int × Int:=if (funS s).1=0 then (if 1048576<(funS s).2.getD 0 0 then (35,0) else (0,(funS s).2.getD 0 0)) else ((funS s).1,0)
theorem bad_at {s:Scr}{o:List Nat}(ho:ordS s.funcs.length (gF s)=some o)(hg:¬ allGood s=true):∃ f ∈ o,¬ goodS (codeS s f)=true:=by
 obtain ⟨hol,hTo⟩:=ord_told (n:=s.funcs.length) (g:=gF s) ho
 apply Classical.byContradiction
 intro hne
 apply hg
 unfold allGood
 rw [List.all_eq_true]
 intro g hgm
 obtain ⟨f,hf,rfl⟩:=List.getElem_of_mem hgm
 apply Classical.byContradiction
 intro hb
 exact hne ⟨f,told_all hTo hol hf,by unfold codeS;rw [List.getElem?_eq_getElem hf];exact hb⟩
def FillB (W:World)(b:Nat)(B:List Int):Prop:=Fill W b 3 B.length (fun j=>.int .i64 (B.getD j 0))
theorem FillB.ns {W:World}{b:Nat}{B:List Int}(h:FillB W b B):NsAt W.cell? (some ⟨b,0,none⟩) B:=.inr ⟨b,0,rfl,fun j hj=>by
 rw [Nat.zero_add,Fill.cell h hj]
 simp [List.getD,hj]⟩
theorem FillB.step {W:World}{b:Nat}{B:List Int}(h:FillB W b B)(f:Nat)(v:Int)(hf:f<B.length):FillB (W.setCell ⟨b,f,none⟩ (.int .i64 v)) b (B.set f v):=by
 have h1:=Fill.set h f (.int .i64 v)
 unfold FillB
 rw [List.length_set]
 refine h1.congr fun j hj=>?_
 by_cases e:j=f
 ·subst e;simp [List.getD,hf]
 ·simp [List.getD,e,List.getElem?_set_ne (Ne.symm e)]
theorem code_at {s:Scr}{a1:Option Addr}{W:World}(h:FsAt W.cell? a1 s.funcs){f:Nat}(hf:f<s.funcs.length):∃ fb fo ca cc,a1=some ⟨fb,fo,none⟩∧W.cell? ⟨fb,fo+f*4+3,none⟩=some (.slice ca (codeS s f).length cc)∧IsAt W.cell? ca (codeS s f):=by
 have e:codeS s f=s.funcs[f].code:=by unfold codeS;rw [List.getElem?_eq_getElem hf]
 rcases h with h | ⟨fb,fo,rfl,h⟩
 ·rw [h] at hf;cases hf
 ·obtain ⟨v0,v1,v2,v3,_,_,_,h3,_,_,_,ca,cc,rfl,hI⟩:=h f hf
  rw [e]
  exact ⟨fb,fo,ca,cc,rfl,h3,hI⟩
theorem partS_good {c:List (Int × Int)}{ls:List Int}(hg:goodS c=true)(hr:rightB c ls=true):partS c ls=(gasS ls c,0):=by unfold partS;rw [if_pos hg,if_pos hr]
theorem partS_bad {c:List (Int × Int)}{ls:List Int}(hg:¬ goodS c=true):partS c ls=(0,31):=by unfold partS;rw [if_neg hg]
theorem okB_all {s:Scr}{o:List Nat}(h:∀ f ∈ o,goodS (codeS s f)=true):OkB s.funcs.length (bndS s o):=by
 have:∀ (o:List Nat) (B:List Int),OkB s.funcs.length B→(∀ f ∈ o,goodS (codeS s f)=true)→OkB s.funcs.length (o.foldl (bstep s) B):=by
  intro o
  induction o with
  | nil=>intro B hB _;exact hB
  | cons f o ih=>intro B hB ho;exact ih _ (okB_step hB (ho f (by simp))) fun g hg=>ho g (by simp [hg])
 exact this o _ (okB_start _) h
theorem code_len {s:Scr}(hr:s.right=true)(f:Nat):(codeS s f).length≤256:=by
 unfold codeS
 split
 ·rename_i g hg
  exact ((right_calls hr).2.2 g (List.mem_of_getElem? hg)).1
 ·simp
set_option maxRecDepth 100000 in
set_option maxHeartbeats 2000000 in
theorem funcs9_any (s:Scr)(V0 V1:Value)(w:World)(hs:ScIs w.cell? s V0 V1)(hsf:s.fits):Calls Tryz.prog 84 #[.agg #[V0,V1]] w (FunEnd (funS s) w):=by
 obtain ⟨⟨a0,c0,rfl,n0⟩,⟨a1,c1,rfl,n1⟩⟩:=hs
 have b1:=(Below.refl _ w).alloc (Nat.le_refl _) (.cells #[.slice a0 s.consts.length c0,.slice a1 s.funcs.length c1] 27)
 have hG:=order_any s _ _ (w.alloc (.cells #[.slice a0 s.consts.length c0,.slice a1 s.funcs.length c1] 27)) ⟨⟨a0,c0,rfl,n0.keep (below_keep b1)⟩,⟨a1,c1,rfl,n1.keep (below_keep b1)⟩⟩ hsf
 have e0:=heap_alloc_new w (.cells #[.slice a0 s.consts.length c0,.slice a1 s.funcs.length c1] 27)
 by_cases hr:s.right=true
 ·obtain ⟨r1,r2,r3⟩:=right_calls hr
  cases ho:ordS s.funcs.length (gF s) with
  | none =>
   have HG:Hid (Calls Tryz.prog 47 #[.agg #[.slice a0 s.consts.length c0,.slice a1 s.funcs.length c1]] (w.alloc (.cells #[.slice a0 s.consts.length c0,.slice a1 s.funcs.length c1] 27)) fun e w1=>e=.returned (.tuple #[.slice none 0 0,.int .i64 34])∧Hid (FunEnd (funS s) w (.returned (.tuple #[.slice none 0 0,.int .i64 34])) w1)):=hid9 (hG.mono fun e w1 ⟨h1,h2⟩=>by
    rw [if_pos hr,ho] at h2
    exact ⟨h2,hid9 (by rw [fun_none hr ho];exact ⟨none,0,rfl,.inl rfl,b1.trans (h1.mono b1.size)⟩)⟩)
   generalize s.consts.length=cl at HG ⊢
   generalize s.funcs.length=fl at HG ⊢
   clear hG hr ho r1 r2 r3 n0 n1 hsf b1 e0
   go_enter Tryz.func84,Tryz.ntmps84
   go_wp2_with (first
    | (go_at_call 47;refine HG.out.mono ?_;clear HG;rintro e w1 ⟨rfl,HE⟩)
    | fail)
   go_ret2
   exact HE.out
  | some o =>
   obtain ⟨hol,hTo⟩:=ord_told (n:=s.funcs.length) (g:=gF s) ho
   have HG:Hid (Calls Tryz.prog 47 #[.agg #[.slice a0 s.consts.length c0,.slice a1 s.funcs.length c1]] (w.alloc (.cells #[.slice a0 s.consts.length c0,.slice a1 s.funcs.length c1] 27)) fun e w1=>∃ oa oc,e=.returned (.tuple #[.slice oa s.funcs.length oc,.int .i64 0])∧Hid (NsAt w1.cell? oa (rowI o)∧Below w.heap.size w w1∧w1.heap[w.heap.size]?=some (.cells #[.slice a0 s.consts.length c0,.slice a1 s.funcs.length c1] 27 (0,0)))):=hid9 (hG.mono fun e w1 ⟨h1,h2⟩=>by
    rw [if_pos hr,ho] at h2
    obtain ⟨oa,oc,e1,h3⟩:=h2
    rw [hol] at e1
    exact ⟨oa,oc,e1,hid9 ⟨h3,b1.trans (h1.mono b1.size),(h1.block _ (heap_lt e0)).trans e0⟩⟩)
   have HFn:Hid (∀ W,Below w.heap.size w W→∀ f<s.funcs.length,∃ fb fo ca cc,a1=some ⟨fb,fo,none⟩∧W.cell? ⟨fb,fo+f*4+3,none⟩=some (.slice ca (codeS s f).length cc)∧IsAt W.cell? ca (codeS s f)):=hid9 fun W hW f hf=>code_at (n1.keep (below_keep hW)) hf
   have HMk:Hid (∀ W:World,∃ W2,(Instr.makeSlice 28 (.int .i64 (s.funcs.length:Int)) (.int .i64 (s.funcs.length:Int))).run Tryz.prog W=.ok (.slice (some ⟨W.heap.size,0,none⟩) s.funcs.length s.funcs.length) W2∧Fill W2 W.heap.size 3 s.funcs.length (fun _=>.int .i64 0)∧Below W.heap.size W W2):=hid9 fun W=>made8 W 28 3 (.int .i64 0) 8 s.funcs.length Tryz.underlying28 (by kernel_rfl) rfl (by omega) (by omega)
   obtain ⟨fl,hfe⟩:∃ fl,fl=s.funcs.length:=⟨_,rfl⟩
   have HFl:=hid9 hfe
   rw [← hfe] at HG HMk HFn r1 r2 ⊢
   have HT:=hid9 (And.intro hol hTo)
   have HR:=hid9 hr
   have HO:=hid9 ho
   generalize s.consts.length=cl at HG ⊢
   clear hG hr ho r3 n0 n1 hsf b1 e0 hol hTo hfe
   go_enter Tryz.func84,Tryz.ntmps84
   go_wp2_with (first
    | (go_at_call 47;refine HG.out.mono ?_;clear HG;rintro e w1 ⟨oa,oc,rfl,H1⟩;obtain ⟨w2,hm2,F2,b2⟩:=HMk.out w1;have hF2:=hid9 (And.intro F2 b2);clear HMk F2 b2)
    | fail)
   clear hm2
   have HB0:Hid (FillB w2 w1.heap.size (bndS s (o.take 0))∧Below w1.heap.size w1 w2∧∀ f ∈ o.take 0,goodS (codeS s f)=true):=hid9 ⟨by
    have h:=hF2.out.1
    rw [HFl.out] at h
    unfold FillB bndS
    rw [List.take_zero,List.foldl_nil,List.length_replicate]
    exact h.congr fun j hj=>by simp [List.getD,hj],hF2.out.2,fun f hf=>by simp at hf⟩
   clear hF2
   go_loopw [22] (fun iv wr=>∃ k:Nat,iv=.int .i64 k∧k≤fl∧Hid (FillB wr w1.heap.size (bndS s (o.take k))∧Below w1.heap.size w1 wr∧∀ f ∈ o.take k,goodS (codeS s f)=true)) (fun iv _=>fl - (intOf iv).toNat)
   case atStart=>exact ⟨0,rfl,Nat.zero_le _,HB0⟩
   case round =>
    obtain ⟨k,rfl,hk,HL⟩:=hrel
    clear HB0
    have HBw:Hid (Below w.heap.size w wr):=hid9 (H1.out.2.1.trans (HL.out.2.1.mono H1.out.2.1.size))
    have hbox:wr.heap[w.heap.size]?=some (.cells #[.slice a0 cl c0,.slice a1 fl c1] 27 (0,0)):=(HL.out.2.1.block _ (heap_lt H1.out.2.2)).trans H1.out.2.2
    have x1:wr.cell? ⟨w.heap.size,1,none⟩=some (.slice a1 fl c1):=Lib.cell_of_heap hbox 1
    by_cases hlt:k<fl
    ·have hko:k<o.length:=by rw [HT.out.1,← HFl.out];exact hlt
     obtain ⟨f,hfe⟩:∃ f,f=o[k]:=⟨_,rfl⟩
     have hf:f<fl:=by rw [HFl.out,hfe];exact (HT.out.2 k hko).1
     obtain ⟨ob,oo,eoa,q0⟩:∃ ob oo,oa=some ⟨ob,oo,none⟩∧wr.cell? ⟨ob,oo+k,none⟩=some (.int .i64 (f:Int)):=by
      rcases H1.out.1.keep (below_keep HL.out.2.1) with h | ⟨b,oo,e,h⟩
      ·have:(rowI o).length=0:=by rw [h];rfl
       simp [rowI] at this
       rw [this] at hko;cases hko
      ·have:=h k (by simp [rowI];exact hko)
       refine ⟨b,oo,e,?_⟩
       rw [this,hfe]
       simp [rowI]
     subst eoa
     obtain ⟨fb,fo,ca,cc,ea,q1,q2⟩:=HFn.out wr HBw.out f hf
     subst ea
     have HT1:Hid (o.take (k+1)=o.take k++[f]):=hid9 (by rw [List.take_succ_eq_append_getElem hko,hfe])
     obtain ⟨B,hB⟩:∃ B,B=bndS s (o.take k):=⟨_,rfl⟩
     have hBl:B.length=fl:=by rw [hB,bnd_len,← HFl.out]
     have HOk:Hid (OkB fl B):=hid9 (by rw [hB,HFl.out];exact okB_all HL.out.2.2)
     have HRt:Hid (rightB (codeS s f) B=true):=hid9 (right_part HR.out (by rw [← HFl.out];exact hf) (by rw [← HFl.out];exact HOk.out))
     have HCl:Hid ((codeS s f).length≤256):=hid9 (code_len HR.out f)
     have HFB:Hid (FillB wr w1.heap.size B):=hid9 (by rw [hB];exact HL.out.1)
     have HP:Hid (Calls Tryz.prog 121 #[.slice ca (codeS s f).length cc,.slice (some ⟨w1.heap.size,0,none⟩) fl fl] wr fun e W=>e=.returned (.tuple #[.int .i64 ((partS (codeS s f) B).1:Nat),.int .i64 (partS (codeS s f) B).2])∧(∃ u,W.cell? ⟨w1.heap.size,f,none⟩=some u)∧W.frozen? ⟨w1.heap.size,f,none⟩=false∧Hid (FillB W w1.heap.size B∧Below w1.heap.size w1 W)):=hid9 (by
      have:=part9_any (codeS s f) B ca (some ⟨w1.heap.size,0,none⟩) cc fl (by have:=HCl.out;omega) (by omega) wr q2 HFB.out.ns
      rw [hBl] at this
      refine this.mono fun e W ⟨h1,h2⟩=>?_
      have hF:FillB W w1.heap.size B:=Fill.keep HFB.out (h2.block _ (Fill.lt HFB.out))
      exact ⟨h1,⟨_,Fill.cell hF (by rw [hBl];exact hf)⟩,Fill.frozen hF f,hid9 ⟨hF,HL.out.2.1.trans (h2.mono HL.out.2.1.size)⟩⟩)
     by_cases hg:goodS (codeS s f)=true
     ·have HL2:Hid (∀ W,FillB W w1.heap.size B∧Below w1.heap.size w1 W→FillB (W.setCell ⟨w1.heap.size,f,none⟩ (.int .i64 ((gasS B (codeS s f):Nat):Int))) w1.heap.size (bndS s (o.take (k+1)))∧Below w1.heap.size w1 (W.setCell ⟨w1.heap.size,f,none⟩ (.int .i64 ((gasS B (codeS s f):Nat):Int)))∧∀ g ∈ o.take (k+1),goodS (codeS s g)=true):=hid9 fun W hW=>by
       rw [HT1.out,bnd_snoc,← hB]
       refine ⟨hW.1.step f _ (by rw [hBl];exact hf),hW.2.setCell (p:=⟨w1.heap.size,f,none⟩) (Nat.le_refl _) _,fun g hgm=>?_⟩
       rcases List.mem_append.1 hgm with h | h
       ·exact HL.out.2.2 g h
       ·rw [List.mem_singleton.1 h];exact hg
      rw [partS_good hg HRt.out] at HP
      simp only at HP
      generalize gasS B (codeS s f)=gv at *
      generalize (codeS s f).length=cln at *
      clear HL HFB HOk HRt HCl HFn H1 HBw HT1 q2 hbox hfe hB
      go_wp2_with (first
       | (go_at_call 121;refine HP.out.mono ?_;clear HP;rintro e w5 ⟨rfl,⟨u,g5⟩,f5,HW⟩)
       | fail)
      exact ⟨⟨k+1,by go_num,by omega,hid9 (HL2.out _ HW.out)⟩,by simp [intOf];omega⟩
     ·have HE:Hid (∀ W,Below w1.heap.size w1 W→FunEnd (funS s) w (.returned (.tuple #[.slice none 0 0,.int .i64 31])) W):=hid9 fun W hW=>by
       rw [fun_bad HR.out HO.out (fun h=>hg (code_good h f))]
       exact ⟨none,0,rfl,.inl rfl,H1.out.2.1.trans (hW.mono H1.out.2.1.size)⟩
      rw [partS_bad hg] at HP
      simp only at HP
      generalize (codeS s f).length=cln at *
      clear HL HFB HOk HRt HCl HFn H1 HBw HT1 q2 hbox hfe hB
      go_wp2_with (first
       | (go_at_call 121;refine HP.out.mono ?_;clear HP;rintro e w5 ⟨rfl,⟨u,g5⟩,f5,HW⟩)
       | fail)
      go_ret2
      exact HE.out _ (HW.out.2.setCell (p:=⟨w1.heap.size,f,none⟩) (Nat.le_refl _) _)
    ·have e:k=fl:=by omega
     subst e
     have HE:Hid (FunEnd (funS s) w (.returned (.tuple #[.slice (some ⟨w1.heap.size,0,none⟩) k k,.int .i64 0])) wr):=hid9 (by
      have hta:o.take k=o:=by rw [HFl.out,← HT.out.1,List.take_length]
      have hA:allGood s=true:=by
       apply Classical.byContradiction
       intro h
       obtain ⟨f,hf,hb⟩:=bad_at HO.out h
       exact hb (HL.out.2.2 f (by rw [hta];exact hf))
      rw [fun_good HR.out HO.out hA]
      have h:=HL.out.1
      rw [hta] at h
      exact ⟨_,k,by rw [show (0,bndS s o).2.length=k by rw [HFl.out];exact bnd_len s o],h.ns,HBw.out⟩)
     clear HL H1 HFn HBw hbox
     go_wp2_with fail
     go_ret2
     exact HE.out
 ·have HG:Hid (Calls Tryz.prog 47 #[.agg #[.slice a0 s.consts.length c0,.slice a1 s.funcs.length c1]] (w.alloc (.cells #[.slice a0 s.consts.length c0,.slice a1 s.funcs.length c1] 27)) fun e w1=>e=.returned (.tuple #[.slice none 0 0,.int .i64 30])∧Hid (FunEnd (funS s) w (.returned (.tuple #[.slice none 0 0,.int .i64 30])) w1)):=hid9 (hG.mono fun e w1 ⟨h1,h2⟩=>by
   rw [if_neg hr] at h2
   exact ⟨h2,hid9 (by rw [fun_no hr];exact ⟨none,0,rfl,.inl rfl,b1.trans (h1.mono b1.size)⟩)⟩)
  generalize s.consts.length=cl at HG ⊢
  generalize s.funcs.length=fl at HG ⊢
  clear hG hr n0 n1 hsf b1 e0
  go_enter Tryz.func84,Tryz.ntmps84
  go_wp2_with (first
   | (go_at_call 47;refine HG.out.mono ?_;clear HG;rintro e w1 ⟨rfl,HE⟩)
   | fail)
  go_ret2
  exact HE.out
theorem fun_err (s:Scr):((funS s).1=0∧(funS s).2.length=s.funcs.length∧s.right=true∧1≤s.funcs.length∧∀ z ∈ (funS s).2,0≤z∧z≤1048577)∨(((funS s).1=30∨(funS s).1=31∨(funS s).1=34)∧(funS s).2=[]):=by
 by_cases hr:s.right=true
 ·cases ho:ordS s.funcs.length (gF s) with
  | none=>rw [fun_none hr ho];exact .inr ⟨.inr (.inr rfl),rfl⟩
  | some o =>
   by_cases hg:allGood s=true
   ·rw [fun_good hr ho hg]
    exact .inl ⟨rfl,bnd_len s o,hr,(right_calls hr).2.1,(okB_all fun f _=>code_good hg f).2⟩
   ·rw [fun_bad hr ho hg];exact .inr ⟨.inr (.inl rfl),rfl⟩
 ·rw [fun_no hr];exact .inr ⟨.inl rfl,rfl⟩
def TotEnd (s:Scr)(w:World)(e:Ending)(w':World):Prop:=e=.returned (.tuple #[.int .i64 (totS s).2,.int .i64 (totS s).1])∧Below w.heap.size w w'
set_option maxRecDepth 100000 in
set_option maxHeartbeats 2000000 in
theorem total9_any (s:Scr)(V0 V1:Value)(w:World)(hs:ScIs w.cell? s V0 V1)(hsf:s.fits):Calls Tryz.prog 49 #[.agg #[V0,V1]] w (TotEnd s w):=by
 obtain ⟨⟨a0,c0,rfl,n0⟩,⟨a1,c1,rfl,n1⟩⟩:=hs
 have b1:=(Below.refl _ w).alloc (Nat.le_refl _) (.cells #[.slice a0 s.consts.length c0,.slice a1 s.funcs.length c1] 27)
 have hG:=funcs9_any s _ _ (w.alloc (.cells #[.slice a0 s.consts.length c0,.slice a1 s.funcs.length c1] 27)) ⟨⟨a0,c0,rfl,n0.keep (below_keep b1)⟩,⟨a1,c1,rfl,n1.keep (below_keep b1)⟩⟩ hsf
 have HT:Hid (totS s=if (funS s).1=0 then (if 1048576<(funS s).2.getD 0 0 then (35,0) else (0,(funS s).2.getD 0 0)) else ((funS s).1,0)):=hid9 rfl
 unfold TotEnd
 generalize totS s=T at *
 rcases fun_err s with ⟨h0,h1,_,h3,_⟩ | ⟨h0,h1⟩
 ·have HG:Hid (Calls Tryz.prog 84 #[.agg #[.slice a0 s.consts.length c0,.slice a1 s.funcs.length c1]] (w.alloc (.cells #[.slice a0 s.consts.length c0,.slice a1 s.funcs.length c1] 27)) fun e w1=>∃ fa fc,e=.returned (.tuple #[.slice (some fa) s.funcs.length fc,.int .i64 0])∧fa.spot=none∧w1.cell? ⟨fa.block,fa.off,none⟩=some (.int .i64 ((funS s).2.getD 0 0))∧Hid (Below w.heap.size w w1)):=hid9 (hG.mono fun e w1 ⟨a,c,e1,h4,h5⟩=>by
   rw [h0,h1] at e1
   rcases h4 with h4 | ⟨b,off,rfl,h4⟩
   ·rw [h4] at h1;simp at h1;omega
   ·refine ⟨⟨b,off,none⟩,c,e1,rfl,?_,hid9 (b1.trans (h5.mono b1.size))⟩
    have:=h4 0 (by omega)
    rw [Nat.add_zero] at this
    rw [this]
    simp [List.getD,show 0<(funS s).2.length by omega])
  rw [h0] at HT
  have HT2:Hid ((1048576<(funS s).2.getD 0 0→T=(35,0))∧(¬ 1048576<(funS s).2.getD 0 0→T=(0,(funS s).2.getD 0 0))):=hid9 ⟨fun h=>by rw [HT.out,if_pos rfl,if_pos h],fun h=>by rw [HT.out,if_pos rfl,if_neg h]⟩
  clear HT hG n0 n1 hsf h0 h1 b1
  generalize s.consts.length=cl at *
  obtain ⟨fl,hfl⟩:∃ fl,fl=s.funcs.length:=⟨_,rfl⟩
  rw [← hfl] at h3 HG ⊢
  generalize (funS s).2.getD 0 0=v at *
  clear hfl
  by_cases hv:1048576<v
  ·rw [HT2.out.1 hv]
   go_enter Tryz.func49,Tryz.ntmps49
   go_wp2_with (first
    | (go_at_call 84;refine HG.out.mono ?_;clear HG;rintro e w1 ⟨⟨fb,fo,sp⟩,fc,rfl,rfl,g0,HB⟩)
    | fail)
   go_ret2
   exact ⟨rfl,HB.out⟩
  ·rw [HT2.out.2 hv]
   have hv2:v≤1048576:=by omega
   go_enter Tryz.func49,Tryz.ntmps49
   go_wp2_with (first
    | (go_at_call 84;refine HG.out.mono ?_;clear HG;rintro e w1 ⟨⟨fb,fo,sp⟩,fc,rfl,rfl,g0,HB⟩)
    | fail)
   go_ret2
   exact ⟨rfl,HB.out⟩
 ·have hne:¬ (funS s).1=0:=by omega
  have HT2:Hid (T=((funS s).1,0)):=hid9 (by rw [HT.out,if_neg hne])
  have HG:Hid (Calls Tryz.prog 84 #[.agg #[.slice a0 s.consts.length c0,.slice a1 s.funcs.length c1]] (w.alloc (.cells #[.slice a0 s.consts.length c0,.slice a1 s.funcs.length c1] 27)) fun e w1=>∃ fa fc,e=.returned (.tuple #[.slice fa 0 fc,.int .i64 (funS s).1])∧Hid (Below w.heap.size w w1)):=hid9 (hG.mono fun e w1 ⟨a,c,e1,h4,h5⟩=>⟨a,c,by rw [h1] at e1;exact e1,hid9 (b1.trans (h5.mono b1.size))⟩)
  rw [HT2.out]
  clear HT HT2 hG n0 n1 hsf h0 h1 b1
  have hnb:((funS s).1 != 0)=true:=by simpa using hne
  generalize s.consts.length=cl at *
  generalize s.funcs.length=fl at *
  generalize (funS s).1=er at *
  go_enter Tryz.func49,Tryz.ntmps49
  go_wp2_with (first
   | (go_at_call 84;refine HG.out.mono ?_;clear HG;rintro e w1 ⟨fa,fc,rfl,HB⟩)
   | fail)
  go_ret2
  exact ⟨rfl,HB.out⟩
def stepV (sb pb:Nat):List Value:=[.func (.func 42) #[] #[.pointer (some ⟨sb,0,none⟩),.pointer (some ⟨pb,0,none⟩)],.func (.func 44) #[] #[.pointer (some ⟨sb,0,none⟩),.pointer (some ⟨pb,0,none⟩)],.func (.func 46) #[] #[.pointer (some ⟨sb,0,none⟩),.pointer (some ⟨pb,0,none⟩)],.func (.func 48) #[] #[.pointer (some ⟨sb,0,none⟩),.pointer (some ⟨pb,0,none⟩)],.func (.func 50) #[] #[.pointer (some ⟨sb,0,none⟩),.pointer (some ⟨pb,0,none⟩)],.func (.func 52) #[] #[.pointer (some ⟨sb,0,none⟩),.pointer (some ⟨pb,0,none⟩)],.func (.func 54) #[] #[.pointer (some ⟨pb,0,none⟩)]]
set_option maxRecDepth 100000 in
set_option maxHeartbeats 2000000 in
theorem steps_any (V0 V1:Value)(db:Nat)(w:World):Calls Tryz.prog 23 #[.agg #[V0,V1],.pointer (some ⟨db,0,none⟩)] w fun e w'=>e=.returned (.slice (some ⟨w.heap.size+1+1,0,none⟩) 7 7)∧w'=((w.alloc (.cells #[V0,V1] 27)).alloc (.cells #[.pointer (some ⟨db,0,none⟩)] 63)).alloc (.cells (stepV w.heap.size (w.heap.size+1)).toArray 64):=by
 have hsf:∀ (W:World) (a:Addr) (q:Go.Fn) (x y:Array Value),(store a (.func q x y)).run Tryz.prog W=stored Tryz.prog W a (.func q x y) _:=fun W a q x y=>run_store Tryz.prog W a _ _ rfl
 go_enter Tryz.func23,Tryz.ntmps23
 go_wp2_with fail
 go_ret
 exact ⟨rfl,rfl⟩
def OffK (b:Nat)(W W':World):Prop:=W.heap.size≤W'.heap.size∧∀ g,g<W.heap.size→g≠b→W'.heap[g]?=W.heap[g]?
theorem OffK.set (W:World)(b i:Nat)(v:Value):OffK b W (W.setCell ⟨b,i,none⟩ v):=⟨by simp,fun g _ hb=>heap_setCell_other W ⟨b,i,none⟩ g v (fun e=>hb e)⟩
theorem cell_setCell_other9 {W:World}{b i g o:Nat}{u v:Value}(h:W.cell? ⟨g,o,none⟩=some u)(hne:¬ (g=b∧o=i)):(W.setCell ⟨b,i,none⟩ v).cell? ⟨g,o,none⟩=some u:=by
 rw [World.cell?_setCell_other _ _ _ _ (fun e=>hne (by cases e;exact ⟨rfl,rfl⟩))]
 exact h
structure St10 (w:World)(db sb pb:Nat)(V0 V1:Value)(D:List Value)(W:World):Prop where
 low:Below w.heap.size w W
 d:W.heap[db]?=some (.cells D.toArray 60 (0,0))
 s:W.heap[sb]?=some (.cells #[V0,V1] 27 (0,0))
 p:W.heap[pb]?=some (.cells #[.pointer (some ⟨db,0,none⟩)] 63 (0,0))
 g:W.heap[pb+1]?=some (.cells (stepV sb pb).toArray 64 (0,0))
 hb:w.heap.size≤db
 ne:sb≠db∧pb≠db∧pb+1≠db
theorem St10.off {w:World}{db sb pb:Nat}{V0 V1:Value}{D:List Value}{W W':World}(h:St10 w db sb pb V0 V1 D W)(k:Below W.heap.size W W'):St10 w db sb pb V0 V1 D W' :=
 ⟨h.low.trans (k.mono h.low.size),(k.block _ (heap_lt h.d)).trans h.d,(k.block _ (heap_lt h.s)).trans h.s,(k.block _ (heap_lt h.p)).trans h.p,(k.block _ (heap_lt h.g)).trans h.g,h.hb,h.ne⟩
theorem St10.set {w:World}{db sb pb:Nat}{V0 V1:Value}{D:List Value}{W:World}(h:St10 w db sb pb V0 V1 D W)(i:Nat)(v:Value):St10 w db sb pb V0 V1 (D.set i v) (W.setCell ⟨db,i,none⟩ v):=by
 have o:=OffK.set W db i v
 refine ⟨h.low.setCell (p:=⟨db,i,none⟩) h.hb v,?_,(o.2 _ (heap_lt h.s) h.ne.1).trans h.s,(o.2 _ (heap_lt h.p) h.ne.2.1).trans h.p,(o.2 _ (heap_lt h.g) h.ne.2.2).trans h.g,h.hb,h.ne⟩
 have:=heap_setCell_same W db i D.toArray 60 v h.d
 rw [this]
 simp
theorem St10.cells {w:World}{db sb pb:Nat}{V0 V1:Value}{D:List Value}{W:World}(h:St10 w db sb pb V0 V1 D W):W.cell? ⟨sb,0,none⟩=some V0∧W.cell? ⟨sb,1,none⟩=some V1∧W.cell? ⟨pb,0,none⟩=some (.pointer (some ⟨db,0,none⟩)):=⟨Lib.cell_of_heap h.s 0,Lib.cell_of_heap h.s 1,Lib.cell_of_heap h.p 0⟩
theorem St10.at {w:World}{db sb pb:Nat}{V0 V1:Value}{D:List Value}{W:World}(h:St10 w db sb pb V0 V1 D W){i:Nat}{v:Value}(hv:D[i]?=some v):W.cell? ⟨db,i,none⟩=some v:=by
 rw [Lib.cell_of_heap h.d];simpa using hv
theorem ns_set {W:World}{b i:Nat}{u v:Value}{a:Option Addr}{ns:List Int}(h:NsAt W.cell? a ns)(hu:W.cell? ⟨b,i,none⟩=some u)(hn:∀ z,u≠.int .i64 z):NsAt (W.setCell ⟨b,i,none⟩ v).cell? a ns:=by
 rcases h with h | ⟨g,off,rfl,h⟩
 ·exact .inl h
 ·refine .inr ⟨g,off,rfl,fun j hj=>?_⟩
  have hc:=h j hj
  by_cases e:g=b∧off+j=i
  ·obtain ⟨rfl,rfl⟩:=e
   rw [hc] at hu
   exact absurd (Option.some.inj hu).symm (hn _)
  ·exact cell_setCell_other9 hc e
theorem St10.fz {w:World}{db sb pb:Nat}{V0 V1:Value}{D:List Value}{W:World}(h:St10 w db sb pb V0 V1 D W)(i:Nat):W.frozen? ⟨db,i,none⟩=false:=Lib.frozen_of_heap h.d i
set_option maxRecDepth 100000 in
set_option maxHeartbeats 2000000 in
theorem step2_gen (P:Option Addr→Nat→Nat→World→Prop)(er:Int)(a0 a1:Option Addr)(n0 c0 n1 c1:Nat)(w:World)(db sb pb:Nat)(D:List Value)(W:World)(hS:St10 w db sb pb (.slice a0 n0 c0) (.slice a1 n1 c1) D W)(hD:D.length=8)
  (hA:∀ W0,Below W.heap.size W W0→Calls Tryz.prog 45 #[.agg #[.slice a0 n0 c0,.slice a1 n1 c1]] W0 fun e W1=>∃ a n c,e=.returned (.tuple #[(.slice a n c),.int .i64 er])∧Below W0.heap.size W0 W1∧P a n c W1) :
  Calls Tryz.prog 44 #[.pointer (some ⟨sb,0,none⟩),.pointer (some ⟨pb,0,none⟩)] W fun e W'=>∃ (a:Option Addr) (n c:Nat) (W1:World),e=.returned (.int .i64 er)∧Below W.heap.size W W1∧W'=W1.setCell ⟨db,3,none⟩ (.slice a n c)∧St10 w db sb pb (.slice a0 n0 c0) (.slice a1 n1 c1) (D.set 3 (.slice a n c)) W'∧P a n c W1:=by
 obtain ⟨x0,x1,x2⟩:=hS.cells
 have HA:Hid (Calls Tryz.prog 45 #[.agg #[.slice a0 n0 c0,.slice a1 n1 c1]] W.drew fun e W1=>∃ a n c,e=.returned (.tuple #[(.slice a n c),.int .i64 er])∧(∃ u,W1.cell? ⟨db,3,none⟩=some u)∧W1.frozen? ⟨db,3,none⟩=false∧(W1.cell? ⟨sb,0,none⟩=some (.slice a0 n0 c0)∧W1.cell? ⟨sb,1,none⟩=some (.slice a1 n1 c1)∧W1.cell? ⟨pb,0,none⟩=some (.pointer (some ⟨db,0,none⟩)))∧Hid (Below W.heap.size W W1∧St10 w db sb pb (.slice a0 n0 c0) (.slice a1 n1 c1) D W1∧P a n c W1)):=hid9 (by
  have hb0:Below W.heap.size W W.drew:=(Below.refl _ _).drew
  refine (hA _ hb0).mono fun e W1 h=>?_
  obtain ⟨a,n,c,e1,h2,h3⟩:=h
  have hb1:Below W.heap.size W W1:=hb0.trans (h2.mono hb0.size)
  have hS1:=hS.off hb1
  exact ⟨a,n,c,e1,⟨_,hS1.at (i:=3) (List.getElem?_eq_getElem (by omega))⟩,hS1.fz 3,hS1.cells,hid9 ⟨hb1,hS1,h3⟩⟩)
 clear hA hS hD
 go_enter Tryz.func44,Tryz.ntmps44
 go_wp2_with fail
 go_region_held3 (fun W=>W.cell? ⟨sb,0,none⟩=some (.slice a0 n0 c0)∧W.cell? ⟨sb,1,none⟩=some (.slice a1 n1 c1)∧W.cell? ⟨pb,0,none⟩=some (.pointer (some ⟨db,0,none⟩))) (first | exact ⟨x0,x1,x2⟩ | exact ⟨y0,y1,y2⟩ | exact hset _ | go_keep) (first
  | (go_at_call 45;refine HA.out.mono ?_;clear HA;rintro e W1 ⟨a,n,c,rfl,⟨u,g1⟩,f1,⟨y0,y1,y2⟩,HW⟩;have hset:∀ u,(W1.setCell ⟨db,3,none⟩ u).cell? ⟨sb,0,none⟩=some (.slice a0 n0 c0)∧(W1.setCell ⟨db,3,none⟩ u).cell? ⟨sb,1,none⟩=some (.slice a1 n1 c1)∧(W1.setCell ⟨db,3,none⟩ u).cell? ⟨pb,0,none⟩=some (.pointer (some ⟨db,0,none⟩)):=fun u=>(HW.out.2.1.set 3 u).cells))
 all_goals
  go_wp2_with fail
  go_ret
  exact ⟨a,n,c,W1,rfl,HW.out.1,rfl,HW.out.2.1.set 3 _,HW.out.2.2⟩
set_option maxRecDepth 100000 in
set_option maxHeartbeats 2000000 in
theorem step3_gen (P:Option Addr→Nat→Nat→World→Prop)(er:Int)(a0 a1:Option Addr)(n0 c0 n1 c1:Nat)(w:World)(db sb pb:Nat)(D:List Value)(W:World)(hS:St10 w db sb pb (.slice a0 n0 c0) (.slice a1 n1 c1) D W)(hD:D.length=8)
  (hA:∀ W0,Below W.heap.size W W0→Calls Tryz.prog 47 #[.agg #[.slice a0 n0 c0,.slice a1 n1 c1]] W0 fun e W1=>∃ a n c,e=.returned (.tuple #[(.slice a n c),.int .i64 er])∧Below W0.heap.size W0 W1∧P a n c W1) :
  Calls Tryz.prog 46 #[.pointer (some ⟨sb,0,none⟩),.pointer (some ⟨pb,0,none⟩)] W fun e W'=>∃ (a:Option Addr) (n c:Nat) (W1:World),e=.returned (.int .i64 er)∧Below W.heap.size W W1∧W'=W1.setCell ⟨db,5,none⟩ (.slice a n c)∧St10 w db sb pb (.slice a0 n0 c0) (.slice a1 n1 c1) (D.set 5 (.slice a n c)) W'∧P a n c W1:=by
 obtain ⟨x0,x1,x2⟩:=hS.cells
 have HA:Hid (Calls Tryz.prog 47 #[.agg #[.slice a0 n0 c0,.slice a1 n1 c1]] W.drew fun e W1=>∃ a n c,e=.returned (.tuple #[(.slice a n c),.int .i64 er])∧(∃ u,W1.cell? ⟨db,5,none⟩=some u)∧W1.frozen? ⟨db,5,none⟩=false∧(W1.cell? ⟨sb,0,none⟩=some (.slice a0 n0 c0)∧W1.cell? ⟨sb,1,none⟩=some (.slice a1 n1 c1)∧W1.cell? ⟨pb,0,none⟩=some (.pointer (some ⟨db,0,none⟩)))∧Hid (Below W.heap.size W W1∧St10 w db sb pb (.slice a0 n0 c0) (.slice a1 n1 c1) D W1∧P a n c W1)):=hid9 (by
  have hb0:Below W.heap.size W W.drew:=(Below.refl _ _).drew
  refine (hA _ hb0).mono fun e W1 h=>?_
  obtain ⟨a,n,c,e1,h2,h3⟩:=h
  have hb1:Below W.heap.size W W1:=hb0.trans (h2.mono hb0.size)
  have hS1:=hS.off hb1
  exact ⟨a,n,c,e1,⟨_,hS1.at (i:=5) (List.getElem?_eq_getElem (by omega))⟩,hS1.fz 5,hS1.cells,hid9 ⟨hb1,hS1,h3⟩⟩)
 clear hA hS hD
 go_enter Tryz.func46,Tryz.ntmps46
 go_wp2_with fail
 go_region_held3 (fun W=>W.cell? ⟨sb,0,none⟩=some (.slice a0 n0 c0)∧W.cell? ⟨sb,1,none⟩=some (.slice a1 n1 c1)∧W.cell? ⟨pb,0,none⟩=some (.pointer (some ⟨db,0,none⟩))) (first | exact ⟨x0,x1,x2⟩ | exact ⟨y0,y1,y2⟩ | exact hset _ | go_keep) (first
  | (go_at_call 47;refine HA.out.mono ?_;clear HA;rintro e W1 ⟨a,n,c,rfl,⟨u,g1⟩,f1,⟨y0,y1,y2⟩,HW⟩;have hset:∀ u,(W1.setCell ⟨db,5,none⟩ u).cell? ⟨sb,0,none⟩=some (.slice a0 n0 c0)∧(W1.setCell ⟨db,5,none⟩ u).cell? ⟨sb,1,none⟩=some (.slice a1 n1 c1)∧(W1.setCell ⟨db,5,none⟩ u).cell? ⟨pb,0,none⟩=some (.pointer (some ⟨db,0,none⟩)):=fun u=>(HW.out.2.1.set 5 u).cells))
 all_goals
  go_wp2_with fail
  go_ret
  exact ⟨a,n,c,W1,rfl,HW.out.1,rfl,HW.out.2.1.set 5 _,HW.out.2.2⟩
set_option maxRecDepth 100000 in
set_option maxHeartbeats 2000000 in
theorem step4_gen (P:Int→World→Prop)(er:Int)(a0 a1:Option Addr)(n0 c0 n1 c1:Nat)(w:World)(db sb pb:Nat)(D:List Value)(W:World)(hS:St10 w db sb pb (.slice a0 n0 c0) (.slice a1 n1 c1) D W)(hD:D.length=8)
  (hA:∀ W0,Below W.heap.size W W0→Calls Tryz.prog 49 #[.agg #[.slice a0 n0 c0,.slice a1 n1 c1]] W0 fun e W1=>∃ n:Int,e=.returned (.tuple #[(.int .i64 n),.int .i64 er])∧Below W0.heap.size W0 W1∧P n W1) :
  Calls Tryz.prog 48 #[.pointer (some ⟨sb,0,none⟩),.pointer (some ⟨pb,0,none⟩)] W fun e W'=>∃ (n:Int) (W1:World),e=.returned (.int .i64 er)∧Below W.heap.size W W1∧W'=W1.setCell ⟨db,2,none⟩ (.int .i64 n)∧St10 w db sb pb (.slice a0 n0 c0) (.slice a1 n1 c1) (D.set 2 (.int .i64 n)) W'∧P n W1:=by
 obtain ⟨x0,x1,x2⟩:=hS.cells
 have HA:Hid (Calls Tryz.prog 49 #[.agg #[.slice a0 n0 c0,.slice a1 n1 c1]] W.drew fun e W1=>∃ n:Int,e=.returned (.tuple #[(.int .i64 n),.int .i64 er])∧(∃ u,W1.cell? ⟨db,2,none⟩=some u)∧W1.frozen? ⟨db,2,none⟩=false∧(W1.cell? ⟨sb,0,none⟩=some (.slice a0 n0 c0)∧W1.cell? ⟨sb,1,none⟩=some (.slice a1 n1 c1)∧W1.cell? ⟨pb,0,none⟩=some (.pointer (some ⟨db,0,none⟩)))∧Hid (Below W.heap.size W W1∧St10 w db sb pb (.slice a0 n0 c0) (.slice a1 n1 c1) D W1∧P n W1)):=hid9 (by
  have hb0:Below W.heap.size W W.drew:=(Below.refl _ _).drew
  refine (hA _ hb0).mono fun e W1 h=>?_
  obtain ⟨n,e1,h2,h3⟩:=h
  have hb1:Below W.heap.size W W1:=hb0.trans (h2.mono hb0.size)
  have hS1:=hS.off hb1
  exact ⟨n,e1,⟨_,hS1.at (i:=2) (List.getElem?_eq_getElem (by omega))⟩,hS1.fz 2,hS1.cells,hid9 ⟨hb1,hS1,h3⟩⟩)
 clear hA hS hD
 go_enter Tryz.func48,Tryz.ntmps48
 go_wp2_with fail
 go_region_held3 (fun W=>W.cell? ⟨sb,0,none⟩=some (.slice a0 n0 c0)∧W.cell? ⟨sb,1,none⟩=some (.slice a1 n1 c1)∧W.cell? ⟨pb,0,none⟩=some (.pointer (some ⟨db,0,none⟩))) (first | exact ⟨x0,x1,x2⟩ | exact ⟨y0,y1,y2⟩ | exact hset _ | go_keep) (first
  | (go_at_call 49;refine HA.out.mono ?_;clear HA;rintro e W1 ⟨n,rfl,⟨u,g1⟩,f1,⟨y0,y1,y2⟩,HW⟩;have hset:∀ u,(W1.setCell ⟨db,2,none⟩ u).cell? ⟨sb,0,none⟩=some (.slice a0 n0 c0)∧(W1.setCell ⟨db,2,none⟩ u).cell? ⟨sb,1,none⟩=some (.slice a1 n1 c1)∧(W1.setCell ⟨db,2,none⟩ u).cell? ⟨pb,0,none⟩=some (.pointer (some ⟨db,0,none⟩)):=fun u=>(HW.out.2.1.set 2 u).cells))
 all_goals
  go_wp2_with fail
  go_ret
  exact ⟨n,W1,rfl,HW.out.1,rfl,HW.out.2.1.set 2 _,HW.out.2.2⟩
set_option maxRecDepth 100000 in
set_option maxHeartbeats 2000000 in
theorem step5_gen (P:Option Addr→Nat→Nat→World→Prop)(er:Int)(a0 a1:Option Addr)(n0 c0 n1 c1:Nat)(w:World)(db sb pb:Nat)(D:List Value)(W:World)(hS:St10 w db sb pb (.slice a0 n0 c0) (.slice a1 n1 c1) D W)(hD:D.length=8)
  (hA:∀ W0,Below W.heap.size W W0→Calls Tryz.prog 51 #[.agg #[.slice a0 n0 c0,.slice a1 n1 c1]] W0 fun e W1=>∃ a n c,e=.returned (.tuple #[(.slice a n c),.int .i64 er])∧Below W0.heap.size W0 W1∧P a n c W1) :
  Calls Tryz.prog 50 #[.pointer (some ⟨sb,0,none⟩),.pointer (some ⟨pb,0,none⟩)] W fun e W'=>∃ (a:Option Addr) (n c:Nat) (W1:World),e=.returned (.int .i64 er)∧Below W.heap.size W W1∧W'=W1.setCell ⟨db,4,none⟩ (.slice a n c)∧St10 w db sb pb (.slice a0 n0 c0) (.slice a1 n1 c1) (D.set 4 (.slice a n c)) W'∧P a n c W1:=by
 obtain ⟨x0,x1,x2⟩:=hS.cells
 have HA:Hid (Calls Tryz.prog 51 #[.agg #[.slice a0 n0 c0,.slice a1 n1 c1]] W.drew fun e W1=>∃ a n c,e=.returned (.tuple #[(.slice a n c),.int .i64 er])∧(∃ u,W1.cell? ⟨db,4,none⟩=some u)∧W1.frozen? ⟨db,4,none⟩=false∧(W1.cell? ⟨sb,0,none⟩=some (.slice a0 n0 c0)∧W1.cell? ⟨sb,1,none⟩=some (.slice a1 n1 c1)∧W1.cell? ⟨pb,0,none⟩=some (.pointer (some ⟨db,0,none⟩)))∧Hid (Below W.heap.size W W1∧St10 w db sb pb (.slice a0 n0 c0) (.slice a1 n1 c1) D W1∧P a n c W1)):=hid9 (by
  have hb0:Below W.heap.size W W.drew:=(Below.refl _ _).drew
  refine (hA _ hb0).mono fun e W1 h=>?_
  obtain ⟨a,n,c,e1,h2,h3⟩:=h
  have hb1:Below W.heap.size W W1:=hb0.trans (h2.mono hb0.size)
  have hS1:=hS.off hb1
  exact ⟨a,n,c,e1,⟨_,hS1.at (i:=4) (List.getElem?_eq_getElem (by omega))⟩,hS1.fz 4,hS1.cells,hid9 ⟨hb1,hS1,h3⟩⟩)
 clear hA hS hD
 go_enter Tryz.func50,Tryz.ntmps50
 go_wp2_with fail
 go_region_held3 (fun W=>W.cell? ⟨sb,0,none⟩=some (.slice a0 n0 c0)∧W.cell? ⟨sb,1,none⟩=some (.slice a1 n1 c1)∧W.cell? ⟨pb,0,none⟩=some (.pointer (some ⟨db,0,none⟩))) (first | exact ⟨x0,x1,x2⟩ | exact ⟨y0,y1,y2⟩ | exact hset _ | go_keep) (first
  | (go_at_call 51;refine HA.out.mono ?_;clear HA;rintro e W1 ⟨a,n,c,rfl,⟨u,g1⟩,f1,⟨y0,y1,y2⟩,HW⟩;have hset:∀ u,(W1.setCell ⟨db,4,none⟩ u).cell? ⟨sb,0,none⟩=some (.slice a0 n0 c0)∧(W1.setCell ⟨db,4,none⟩ u).cell? ⟨sb,1,none⟩=some (.slice a1 n1 c1)∧(W1.setCell ⟨db,4,none⟩ u).cell? ⟨pb,0,none⟩=some (.pointer (some ⟨db,0,none⟩)):=fun u=>(HW.out.2.1.set 4 u).cells))
 all_goals
  go_wp2_with fail
  go_ret
  exact ⟨a,n,c,W1,rfl,HW.out.1,rfl,HW.out.2.1.set 4 _,HW.out.2.2⟩
set_option maxRecDepth 100000 in
set_option maxHeartbeats 2000000 in
theorem step6_gen (P:Option Addr→Nat→Nat→World→Prop)(er:Int)(a0 a1:Option Addr)(n0 c0 n1 c1:Nat)(w:World)(db sb pb:Nat)(D:List Value)(W:World)(hS:St10 w db sb pb (.slice a0 n0 c0) (.slice a1 n1 c1) D W)(hD:D.length=8)
  (hA:∀ W0,Below W.heap.size W W0→Calls Tryz.prog 53 #[.agg #[.slice a0 n0 c0,.slice a1 n1 c1]] W0 fun e W1=>∃ a n c,e=.returned (.tuple #[(.slice a n c),.int .i64 er])∧Below W0.heap.size W0 W1∧P a n c W1) :
  Calls Tryz.prog 52 #[.pointer (some ⟨sb,0,none⟩),.pointer (some ⟨pb,0,none⟩)] W fun e W'=>∃ (a:Option Addr) (n c:Nat) (W1:World),e=.returned (.int .i64 er)∧Below W.heap.size W W1∧W'=W1.setCell ⟨db,7,none⟩ (.slice a n c)∧St10 w db sb pb (.slice a0 n0 c0) (.slice a1 n1 c1) (D.set 7 (.slice a n c)) W'∧P a n c W1:=by
 obtain ⟨x0,x1,x2⟩:=hS.cells
 have HA:Hid (Calls Tryz.prog 53 #[.agg #[.slice a0 n0 c0,.slice a1 n1 c1]] W.drew fun e W1=>∃ a n c,e=.returned (.tuple #[(.slice a n c),.int .i64 er])∧(∃ u,W1.cell? ⟨db,7,none⟩=some u)∧W1.frozen? ⟨db,7,none⟩=false∧(W1.cell? ⟨sb,0,none⟩=some (.slice a0 n0 c0)∧W1.cell? ⟨sb,1,none⟩=some (.slice a1 n1 c1)∧W1.cell? ⟨pb,0,none⟩=some (.pointer (some ⟨db,0,none⟩)))∧Hid (Below W.heap.size W W1∧St10 w db sb pb (.slice a0 n0 c0) (.slice a1 n1 c1) D W1∧P a n c W1)):=hid9 (by
  have hb0:Below W.heap.size W W.drew:=(Below.refl _ _).drew
  refine (hA _ hb0).mono fun e W1 h=>?_
  obtain ⟨a,n,c,e1,h2,h3⟩:=h
  have hb1:Below W.heap.size W W1:=hb0.trans (h2.mono hb0.size)
  have hS1:=hS.off hb1
  exact ⟨a,n,c,e1,⟨_,hS1.at (i:=7) (List.getElem?_eq_getElem (by omega))⟩,hS1.fz 7,hS1.cells,hid9 ⟨hb1,hS1,h3⟩⟩)
 clear hA hS hD
 go_enter Tryz.func52,Tryz.ntmps52
 go_wp2_with fail
 go_region_held3 (fun W=>W.cell? ⟨sb,0,none⟩=some (.slice a0 n0 c0)∧W.cell? ⟨sb,1,none⟩=some (.slice a1 n1 c1)∧W.cell? ⟨pb,0,none⟩=some (.pointer (some ⟨db,0,none⟩))) (first | exact ⟨x0,x1,x2⟩ | exact ⟨y0,y1,y2⟩ | exact hset _ | go_keep) (first
  | (go_at_call 53;refine HA.out.mono ?_;clear HA;rintro e W1 ⟨a,n,c,rfl,⟨u,g1⟩,f1,⟨y0,y1,y2⟩,HW⟩;have hset:∀ u,(W1.setCell ⟨db,7,none⟩ u).cell? ⟨sb,0,none⟩=some (.slice a0 n0 c0)∧(W1.setCell ⟨db,7,none⟩ u).cell? ⟨sb,1,none⟩=some (.slice a1 n1 c1)∧(W1.setCell ⟨db,7,none⟩ u).cell? ⟨pb,0,none⟩=some (.pointer (some ⟨db,0,none⟩)):=fun u=>(HW.out.2.1.set 7 u).cells))
 all_goals
  go_wp2_with fail
  go_ret
  exact ⟨a,n,c,W1,rfl,HW.out.1,rfl,HW.out.2.1.set 7 _,HW.out.2.2⟩
set_option maxRecDepth 100000 in
set_option maxHeartbeats 2000000 in
theorem step1_no (a0 a1:Option Addr)(n0 c0 n1 c1:Nat)(w:World)(db sb pb:Nat)(D:List Value)(W:World)(hS:St10 w db sb pb (.slice a0 n0 c0) (.slice a1 n1 c1) D W)
  (hR:∀ W0,Below W.heap.size W W0→Calls Tryz.prog 30 #[.agg #[.slice a0 n0 c0,.slice a1 n1 c1]] W0 fun e W1=>e=.returned (.bool false)∧Below W0.heap.size W0 W1) :
  Calls Tryz.prog 42 #[.pointer (some ⟨sb,0,none⟩),.pointer (some ⟨pb,0,none⟩)] W fun e W'=>e=.returned (.int .i64 30)∧Below W.heap.size W W':=by
 obtain ⟨x0,x1,x2⟩:=hS.cells
 have HR:Hid (∀ W0,Below W.heap.size W W0→Calls Tryz.prog 30 #[.agg #[.slice a0 n0 c0,.slice a1 n1 c1]] W0 fun e W1=>e=.returned (.bool false)∧Hid (Below W.heap.size W W1)):=hid9 fun W0 hb=>(hR W0 hb).mono fun e W1 ⟨h1,h2⟩=>⟨h1,hid9 (hb.trans (h2.mono hb.size))⟩
 clear hR hS
 go_enter Tryz.func42,Tryz.ntmps42
 go_wp2_with (first
  | (go_at_call 30;refine (HR.out _ (Below.refl _ _)).mono ?_;clear HR;rintro e W1 ⟨rfl,HB⟩)
  | fail)
 go_ret
 exact ⟨rfl,HB.out⟩
set_option maxRecDepth 100000 in
set_option maxHeartbeats 2000000 in
theorem step1_yes (P:Value→Value→Nat→World→Prop)(a0 a1:Option Addr)(n0 c0 n1 c1:Nat)(w:World)(db sb pb:Nat)(D:List Value)(W:World)(hS:St10 w db sb pb (.slice a0 n0 c0) (.slice a1 n1 c1) D W)(hD:D.length=8)
  (hR:∀ W0,Below W.heap.size W W0→Calls Tryz.prog 30 #[.agg #[.slice a0 n0 c0,.slice a1 n1 c1]] W0 fun e W1=>e=.returned (.bool true)∧Below W0.heap.size W0 W1)
  (hC:∀ W0,Below W.heap.size W W0→Calls Tryz.prog 43 #[.agg #[.slice a0 n0 c0,.slice a1 n1 c1]] W0 fun e W1=>∃ b0 m0 d0 b1 m1 d1,e=.returned (.agg #[.slice b0 m0 d0,.slice b1 m1 d1])∧Below W0.heap.size W0 W1∧P (.slice b0 m0 d0) (.slice b1 m1 d1) W0.heap.size W1) :
  Calls Tryz.prog 42 #[.pointer (some ⟨sb,0,none⟩),.pointer (some ⟨pb,0,none⟩)] W fun e W'=>∃ (b0 b1:Option Addr) (m0 d0 m1 d1 B:Nat) (W1:World),e=.returned (.int .i64 0)∧Below W.heap.size W W1∧W.heap.size≤B∧W'=(W1.setCell ⟨db,0,none⟩ (.slice b0 m0 d0)).setCell ⟨db,1,none⟩ (.slice b1 m1 d1)∧St10 w db sb pb (.slice a0 n0 c0) (.slice a1 n1 c1) ((D.set 0 (.slice b0 m0 d0)).set 1 (.slice b1 m1 d1)) W'∧P (.slice b0 m0 d0) (.slice b1 m1 d1) B W1:=by
 obtain ⟨x0,x1,x2⟩:=hS.cells
 have HR:Hid (∀ W0,Below W.heap.size W W0→Calls Tryz.prog 30 #[.agg #[.slice a0 n0 c0,.slice a1 n1 c1]] W0 fun e W1=>e=.returned (.bool true)∧(W1.cell? ⟨sb,0,none⟩=some (.slice a0 n0 c0)∧W1.cell? ⟨sb,1,none⟩=some (.slice a1 n1 c1)∧W1.cell? ⟨pb,0,none⟩=some (.pointer (some ⟨db,0,none⟩)))∧Hid (Below W.heap.size W W1)):=hid9 fun W0 hb=>(hR W0 hb).mono fun e W1 ⟨h1,h2⟩=>by
  have hb1:=hb.trans (h2.mono hb.size)
  exact ⟨h1,(hS.off hb1).cells,hid9 hb1⟩
 have HC:Hid (∀ W0,Below W.heap.size W W0→Calls Tryz.prog 43 #[.agg #[.slice a0 n0 c0,.slice a1 n1 c1]] W0 fun e W1=>∃ b0 m0 d0 b1 m1 d1,e=.returned (.agg #[.slice b0 m0 d0,.slice b1 m1 d1])∧((∃ u,W1.cell? ⟨db,0,none⟩=some u)∧∃ u,W1.cell? ⟨db,1,none⟩=some u)∧(W1.frozen? ⟨db,0,none⟩=false∧W1.frozen? ⟨db,1,none⟩=false)∧(W1.cell? ⟨sb,0,none⟩=some (.slice a0 n0 c0)∧W1.cell? ⟨sb,1,none⟩=some (.slice a1 n1 c1)∧W1.cell? ⟨pb,0,none⟩=some (.pointer (some ⟨db,0,none⟩)))∧Hid (Below W.heap.size W W1∧St10 w db sb pb (.slice a0 n0 c0) (.slice a1 n1 c1) D W1∧W.heap.size≤W0.heap.size∧P (.slice b0 m0 d0) (.slice b1 m1 d1) W0.heap.size W1)):=hid9 fun W0 hb=>(hC W0 hb).mono fun e W1 ⟨b0,m0,d0,b1,m1,d1,e1,h2,h3⟩=>by
  have hb1:=hb.trans (h2.mono hb.size)
  have hS1:=hS.off hb1
  exact ⟨b0,m0,d0,b1,m1,d1,e1,⟨⟨_,hS1.at (i:=0) (List.getElem?_eq_getElem (by omega))⟩,⟨_,hS1.at (i:=1) (List.getElem?_eq_getElem (by omega))⟩⟩,⟨hS1.fz 0,hS1.fz 1⟩,hS1.cells,hid9 ⟨hb1,hS1,hb.size,h3⟩⟩
 clear hR hC hS hD
 go_enter Tryz.func42,Tryz.ntmps42
 go_wp2_with (first
  | (go_at_call 30;refine (HR.out _ (Below.refl _ _)).mono ?_;clear HR;rintro e W1 ⟨rfl,⟨y0,y1,y2⟩,HB⟩)
  | fail)
 have HC2:=hid9 (HC.out _ (HB.out.trans ((Below.refl _ W1).drew.mono HB.out.size)))
 clear HC
 go_region_held3 (fun W=>W.cell? ⟨sb,0,none⟩=some (.slice a0 n0 c0)∧W.cell? ⟨sb,1,none⟩=some (.slice a1 n1 c1)∧W.cell? ⟨pb,0,none⟩=some (.pointer (some ⟨db,0,none⟩))) (first | exact ⟨y0,y1,y2⟩ | exact ⟨z0,z1,z2⟩ | exact hset _ _ | go_keep) (first
  | (go_at_call 43;refine HC2.out.mono ?_;clear HC2;rintro e W2 ⟨b0,m0,d0,b1,m1,d1,rfl,⟨⟨u0,g0⟩,⟨u1,g1⟩⟩,⟨f0,f1⟩,⟨z0,z1,z2⟩,HW⟩;have hset:∀ u v,((W2.setCell ⟨db,0,none⟩ u).setCell ⟨db,1,none⟩ v).cell? ⟨sb,0,none⟩=some (.slice a0 n0 c0)∧((W2.setCell ⟨db,0,none⟩ u).setCell ⟨db,1,none⟩ v).cell? ⟨sb,1,none⟩=some (.slice a1 n1 c1)∧((W2.setCell ⟨db,0,none⟩ u).setCell ⟨db,1,none⟩ v).cell? ⟨pb,0,none⟩=some (.pointer (some ⟨db,0,none⟩)):=fun u v=>((HW.out.2.1.set 0 u).set 1 v).cells))
 all_goals
  go_wp2_with fail
  go_ret
  exact ⟨b0,b1,m0,d0,m1,d1,_,W2,rfl,HW.out.1,HW.out.2.2.1,rfl,(HW.out.2.1.set 0 _).set 1 _,HW.out.2.2.2⟩
def fnN (s:Scr)(f:Nat):Nat:=match s.funcs[f]? with | some g=>g.p.length+g.l.length | none=>0
def rmMax (R:List Int)(cs:List Nat):Int:=cs.foldl (fun b c=>max b (R.getD c 0)) 0
def rmStep (s:Scr)(S:List Int)(R:List Int)(f:Nat):List Int:=R.set f ((fnN s f:Int)+S.getD f 0+rmMax R (gF s f))
def roomsS (s:Scr)(S:List Int)(o:List Nat):List Int:=o.foldl (rmStep s S) (List.replicate s.funcs.length 0)
theorem rooms_len (s:Scr)(S:List Int)(o:List Nat):(roomsS s S o).length=s.funcs.length:=by
 have:∀ (o:List Nat) (B:List Int),(o.foldl (rmStep s S) B).length=B.length:=by
  intro o
  induction o with
  | nil=>intro B;rfl
  | cons f o ih=>intro B;rw [List.foldl_cons,ih];simp [rmStep]
 rw [roomsS,this];simp
theorem rooms_snoc (s:Scr)(S:List Int)(o:List Nat)(f:Nat):roomsS s S (o++[f])=rmStep s S (roomsS s S o) f:=by simp [roomsS,List.foldl_append]
def OkR (k:Nat)(R:List Int):Prop:=∀ z ∈ R,0≤z∧z≤(k:Int)*2000000
theorem okR_get {k:Nat}{R:List Int}(h:OkR k R)(c:Nat):0≤R.getD c 0∧R.getD c 0≤(k:Int)*2000000:=by
 rw [List.getD_eq_getElem?_getD]
 cases e:R[c]? with
 | none=>simp;omega
 | some z=>exact h z (List.mem_of_getElem? e)
theorem rmMax_in {k:Nat}{R:List Int}(h:OkR k R)(cs:List Nat):0≤rmMax R cs∧rmMax R cs≤(k:Int)*2000000:=by
 have:∀ (cs:List Nat) (b:Int),0≤b∧b≤(k:Int)*2000000→0≤cs.foldl (fun b c=>max b (R.getD c 0)) b∧cs.foldl (fun b c=>max b (R.getD c 0)) b≤(k:Int)*2000000:=by
  intro cs
  induction cs with
  | nil=>intro b hb;exact hb
  | cons c cs ih=>intro b hb;exact ih (max b (R.getD c 0)) (by have:=okR_get h c;omega)
 exact this cs 0 (by omega)
theorem okR_step {s:Scr}{S:List Int}{k f:Nat}{R:List Int}(h:OkR k R)(hn:fnN s f≤16)(hS:0≤S.getD f 0∧S.getD f 0≤1000000):OkR (k+1) (rmStep s S R f):=by
 intro z hz
 have hm:=rmMax_in h (gF s f)
 rcases List.mem_or_eq_of_mem_set hz with hz | hz
 ·have:=h z hz
  rw [Int.natCast_add]
  omega
 ·rw [Int.natCast_add]
  omega
theorem fn_le {s:Scr}(hr:s.right=true)(f:Nat):fnN s f≤16:=by
 unfold fnN
 split
 ·rename_i g hg
  simp only [Scr.right,Bool.and_eq_true,decide_eq_true_eq,List.all_eq_true] at hr
  have h4:=hr.2 g (List.mem_of_getElem? hg)
  simp only [Fn.right,Fn.lists,Bool.and_eq_true,decide_eq_true_eq] at h4
  exact h4.1.1.1.2
 ·omega
set_option maxRecDepth 100000 in
set_option maxHeartbeats 2000000 in
theorem rooms_any (s:Scr)(S:List Int)(o:List Nat)(n:Nat)(db:Nat)(fa sa oa ga:Option Addr)(fc sc oc gc:Nat)(W:World)(hn:s.funcs.length=n)(hr:s.right=true)(hsf:s.fits)(ho:o.length=n)(hT:Told n (gF s) o)(hSl:S.length=n)(hSb:∀ z ∈ S,0≤z∧z≤1000000)
  (d1:W.cell? ⟨db,1,none⟩=some (.slice fa n fc)) (d3:W.cell? ⟨db,3,none⟩=some (.slice sa n sc)) (d5:W.cell? ⟨db,5,none⟩=some (.slice oa n oc)) (d7:W.cell? ⟨db,7,none⟩=some (.slice ga n gc))
  (hF:FsAt W.cell? fa s.funcs) (hS:NsAt W.cell? sa S) (hO:NsAt W.cell? oa (rowI o)) (hG:RsAt W.cell? ga (rowsI (graphS s))) :
  Calls Tryz.prog 55 #[.pointer (some ⟨db,0,none⟩)] W fun e W'=>∃ g,e=.returned (.slice (some ⟨g,0,none⟩) n n)∧NsAt W'.cell? (some ⟨g,0,none⟩) (roomsS s S o)∧W.heap.size≤g∧Below W.heap.size W W':=by
 obtain ⟨r1,r2,r3⟩:=right_calls hr
 rw [hn] at r1 r2
 have HMk:Hid (∀ W:World,∃ W2,(Instr.makeSlice 28 (.int .i64 (n:Int)) (.int .i64 (n:Int))).run Tryz.prog W=.ok (.slice (some ⟨W.heap.size,0,none⟩) n n) W2∧Fill W2 W.heap.size 3 n (fun _=>.int .i64 0)∧Below W.heap.size W W2):=hid9 fun W=>made8 W 28 3 (.int .i64 0) 8 n Tryz.underlying28 (by kernel_rfl) rfl (by omega) (by omega)
 have HI:=hid9 (And.intro hF (And.intro hS (And.intro hO hG)))
 clear hF hS hO hG
 obtain ⟨w2,hm2,F2,b2⟩:=HMk.out W
 have hF2:=hid9 (And.intro F2 b2)
 have e5:w2.cell? ⟨db,5,none⟩=some (.slice oa n oc):=below_keep b2 _ _ d5
 clear HMk F2 b2
 go_enter Tryz.func55,Tryz.ntmps55
 go_wp2_with fail
 clear hm2 e5
 have HB0:Hid (FillB w2 W.heap.size (roomsS s S (o.take 0))∧Below W.heap.size W w2∧OkR 0 (roomsS s S (o.take 0))):=hid9 ⟨by
  have h:=hF2.out.1
  rw [← hn] at h
  unfold FillB roomsS
  rw [List.take_zero,List.foldl_nil,List.length_replicate]
  exact h.congr fun j hj=>by simp [List.getD,hj],hF2.out.2,fun z hz=>by
   rw [List.take_zero,roomsS,List.foldl_nil] at hz
   rw [(List.mem_replicate.1 hz).2]
   omega⟩
 clear hF2
 have HT:=hid9 hT
 have HR:=hid9 hr
 have HN:=hid9 hn
 have HSb:=hid9 (And.intro hSl hSb)
 have HSf:=hid9 hsf
 clear hT hr hn hSl hSb r3 hsf
 go_loopw [22] (fun iv wr=>∃ k:Nat,iv=.int .i64 k∧k≤n∧Hid (FillB wr W.heap.size (roomsS s S (o.take k))∧Below W.heap.size W wr∧OkR k (roomsS s S (o.take k)))) (fun iv _=>n - (intOf iv).toNat)
 case atStart=>exact ⟨0,rfl,Nat.zero_le _,HB0⟩
 case round =>
  obtain ⟨k,rfl,hk,HL⟩:=hrel
  clear HB0
  by_cases hlt:k<n
  ·have hko:k<o.length:=by omega
   obtain ⟨f,hfe⟩:∃ f,f=o[k]:=⟨_,rfl⟩
   have hf:f<n:=by rw [hfe];exact (HT.out k hko).1
   obtain ⟨I1,I2,I3,I4⟩:=HI.out
   have hkp:=below_keep HL.out.2.1
   obtain ⟨ob,oo,eoa,q0⟩:∃ ob oo,oa=some ⟨ob,oo,none⟩∧wr.cell? ⟨ob,oo+k,none⟩=some (.int .i64 (f:Int)):=by
    rcases I3.keep hkp with h | ⟨b,oo,e,h⟩
    ·have:(rowI o).length=0:=by rw [h];rfl
     simp [rowI] at this
     rw [this] at hko;cases hko
    ·have:=h k (by simp [rowI];exact hko)
     refine ⟨b,oo,e,?_⟩
     rw [this,hfe]
     simp [rowI]
   subst eoa
   obtain ⟨i1,i2,i3,i4⟩:=graph_inn s
   obtain ⟨gb,go,aj,cj,ega,q1,HQ⟩:∃ gb go aj cj,ga=some ⟨gb,go,none⟩∧wr.cell? ⟨gb,go+f,none⟩=some (.slice aj (gF s f).length cj)∧Hid (NsAt wr.cell? aj (rowI (gF s f))):=by
    rcases I4.keep hkp with h | ⟨b,off,e,h⟩
    ·rw [rowsI,List.map_eq_nil_iff] at h
     have h5:=HN.out
     rw [← i4,h] at h5
     simp at h5
     omega
    ·have hfl:f<(rowsI (graphS s)).length:=by rw [rowsI,List.length_map,i4,HN.out];exact hf
     obtain ⟨aj,cj,h1,h2⟩:=h f hfl
     have e2:(rowsI (graphS s))[f]=rowI (gF s f):=by
      have:f<(graphS s).length:=by rw [i4,HN.out];exact hf
      simp [rowsI,gF,gOf,List.getD,this]
     rw [e2] at h1 h2
     exact ⟨b,off,aj,cj,e,by rw [h1];simp [rowI],hid9 h2⟩
   subst ega
   obtain ⟨sb,so,esa,q2⟩:∃ sb so,sa=some ⟨sb,so,none⟩∧W.cell? ⟨sb,so+f,none⟩=some (.int .i64 (S.getD f 0)):=by
    rcases I2 with h | ⟨b,off,e,h⟩
    ·have h1:=HSb.out.1;rw [h] at h1;simp at h1;omega
    ·have hfl:f<S.length:=by rw [HSb.out.1];exact hf
     exact ⟨b,off,e,by rw [h f hfl];simp [List.getD,hfl]⟩
   subst esa
   obtain ⟨fb,fo,v0,v1,v2,v3,efa,p0,p1,p2,p3,HFi⟩:∃ fb fo v0 v1 v2 v3,fa=some ⟨fb,fo,none⟩∧W.cell? ⟨fb,fo+f*4,none⟩=some v0∧W.cell? ⟨fb,fo+f*4+1,none⟩=some v1∧W.cell? ⟨fb,fo+f*4+2,none⟩=some v2∧W.cell? ⟨fb,fo+f*4+3,none⟩=some v3∧Hid (∀ W0,Below W.heap.size W W0→Calls Tryz.prog 86 #[.agg #[v0,v1,v2,v3]] W0 fun e W1=>∃ a c,e=.returned (.slice a (fnN s f) c)∧Below W0.heap.size W0 W1):=by
    rcases I1 with h | ⟨b,off,e,h⟩
    ·have h1:=HN.out;rw [h] at h1;simp at h1;omega
    ·have hfl:f<s.funcs.length:=by rw [HN.out];exact hf
     obtain ⟨v0,v1,v2,v3,h0,h1,h2,h3,h4⟩:=h f hfl
     refine ⟨b,off,v0,v1,v2,v3,e,h0,h1,h2,h3,hid9 fun W0 hW0=>?_⟩
     have hfit:=HSf.out.2.2.1 _ (List.getElem_mem hfl)
     have efn:fnN s f=s.funcs[f].p.length+s.funcs[f].l.length:=by unfold fnN;rw [List.getElem?_eq_getElem hfl]
     have hle:fnN s f≤16:=fn_le HR.out f
     refine (slots_any s.funcs[f] v0 v1 v2 v3 W0 (h4.keep (below_keep hW0)) hfit (by omega)).mono fun e W1 h=>?_
     obtain ⟨⟨v,e1,hr⟩,hb⟩:=h
     obtain ⟨a,c,rfl,_⟩:=row_form hr
     exact ⟨a,c,by rw [e1,efn,List.length_append],hb⟩
   subst efa
   have HT1:Hid (o.take (k+1)=o.take k++[f]):=hid9 (by rw [List.take_succ_eq_append_getElem hko,hfe])
   obtain ⟨R,hRe⟩:∃ R,R=roomsS s S (o.take k):=⟨_,rfl⟩
   have hRl:R.length=n:=by rw [hRe,rooms_len,HN.out]
   have HFB:Hid (FillB wr W.heap.size R):=hid9 (by rw [hRe];exact HL.out.1)
   have HOk:Hid (OkR k R):=hid9 (by rw [hRe];exact HL.out.2.2)
   have HBw:Hid (Below W.heap.size W wr):=hid9 HL.out.2.1
   have HCs:Hid (∀ c ∈ gF s f,c<n):=hid9 fun c hc=>by have:=i1 f (by rw [HN.out];exact hf) c hc;rw [HN.out] at this;exact this
   have hcl:(gF s f).length≤16:=by
    have:(gF s f) ∈ graphS s:=by
     have:f<(graphS s).length:=by rw [i4,HN.out];exact hf
     simp [gF,gOf,List.getD,this]
    have:=i3 _ this
    rw [HN.out] at this
    omega
   have t1:wr.cell? ⟨db,1,none⟩=some (.slice (some ⟨fb,fo,none⟩) n fc):=hkp _ _ d1
   have t3:wr.cell? ⟨db,3,none⟩=some (.slice (some ⟨sb,so,none⟩) n sc):=hkp _ _ d3
   have t7:wr.cell? ⟨db,7,none⟩=some (.slice (some ⟨gb,go,none⟩) n gc):=hkp _ _ d7
   obtain ⟨cs,hcs⟩:∃ cs,cs=gF s f:=⟨_,rfl⟩
   have HCe:=hid9 hcs
   rw [← hcs] at q1 HQ HCs hcl
   obtain ⟨cn,hcn⟩:∃ cn,cn=cs.length:=⟨_,rfl⟩
   have HCn:=hid9 hcn
   rw [← hcn] at q1 hcl
   clear I1 I2 I3 I4 i1 i2 i3 i4 hfe hcs hcn hkp
   go_wp2_with fail
   go_loopw [6,34] (fun bv iv wq=>∃ i:Nat,iv=.int .i64 i∧i≤cn∧bv=.int .i64 (rmMax R (cs.take i))∧wr=wq) (fun _ iv _=>cn - (intOf iv).toNat)
   case atStart=>exact ⟨0,rfl,Nat.zero_le _,by simp [rmMax],rfl⟩
   case round =>
    obtain ⟨i,rfl,hi,rfl,rfl⟩:=hrel
    by_cases hic:i<cn
    ·have hil:i<cs.length:=by rw [← HCn.out];exact hic
     obtain ⟨c,hce⟩:∃ c,c=cs[i]:=⟨_,rfl⟩
     have hcn2:c<n:=HCs.out c (by rw [hce];exact List.getElem_mem hil)
     obtain ⟨ab,ao,eaj,q5⟩:∃ ab ao,aj=some ⟨ab,ao,none⟩∧wr.cell? ⟨ab,ao+i,none⟩=some (.int .i64 (c:Int)):=by
      rcases HQ.out with h | ⟨b,oo,e,h⟩
      ·have:(rowI cs).length=0:=by rw [h];rfl
       simp [rowI] at this
       rw [this] at hil;cases hil
      ·have:=h i (by simp [rowI];exact hil)
       refine ⟨b,oo,e,?_⟩
       rw [this,hce]
       simp [rowI]
     subst eaj
     have q6:wr.cell? ⟨W.heap.size,c,none⟩=some (.int .i64 (R.getD c 0)):=Fill.cell HFB.out (by rw [hRl];exact hcn2)
     have HM:Hid (rmMax R (cs.take (i+1))=max (rmMax R (cs.take i)) (R.getD c 0)):=hid9 (by rw [List.take_succ_eq_append_getElem hil,rmMax,List.foldl_append,hce];rfl)
     generalize rmMax R (cs.take i)=m0 at *
     generalize R.getD c 0=rv at *
     clear hce HQ HFB
     go_wp2_with fail
     exact ⟨⟨i+1,by go_num,by omega,by rw [HM.out],by first | trivial | rfl⟩,by simp [intOf];omega⟩
    ·have e:i=cn:=by omega
     subst e
     have hmx:=rmMax_in HOk.out (cs.take i)
     have HMx:Hid (rmMax R (cs.take i)=rmMax R (gF s f)):=hid9 (by rw [HCn.out,List.take_length,HCe.out])
     generalize rmMax R (cs.take i)=mx at *
     have hsv:0≤S.getD f 0∧S.getD f 0≤1000000:=by
      have hfl:f<S.length:=by rw [HSb.out.1];exact hf
      have:=HSb.out.2 _ (List.getElem_mem hfl)
      simpa [List.getD,hfl] using this
     have hfn:=fn_le HR.out f
     have HEnd:Hid (∀ W1,Below W.heap.size W W1→FillB W1 W.heap.size R→FillB (W1.setCell ⟨W.heap.size,f,none⟩ (.int .i64 ((fnN s f:Int)+S.getD f 0+mx))) W.heap.size (roomsS s S (o.take (k+1)))∧Below W.heap.size W (W1.setCell ⟨W.heap.size,f,none⟩ (.int .i64 ((fnN s f:Int)+S.getD f 0+mx)))∧OkR (k+1) (roomsS s S (o.take (k+1)))):=hid9 fun W1 hb hF=>by
      rw [HT1.out,rooms_snoc,← hRe]
      refine ⟨?_,hb.setCell (p:=⟨W.heap.size,f,none⟩) (Nat.le_refl _) _,okR_step HOk.out hfn hsv⟩
      have:=hF.step f ((fnN s f:Int)+S.getD f 0+mx) (by rw [hRl];exact hf)
      rw [HMx.out] at this
      rw [HMx.out]
      exact this
     generalize S.getD f 0=sv at *
     have HSS:Hid (∀ W1,Below W.heap.size W W1→W1.cell? ⟨db,1,none⟩=some (.slice (some ⟨fb,fo,none⟩) n fc)∧W1.cell? ⟨db,3,none⟩=some (.slice (some ⟨sb,so,none⟩) n sc)∧(W1.cell? ⟨fb,fo+f*4,none⟩=some v0∧W1.cell? ⟨fb,fo+f*4+1,none⟩=some v1∧W1.cell? ⟨fb,fo+f*4+2,none⟩=some v2∧W1.cell? ⟨fb,fo+f*4+3,none⟩=some v3)∧W1.cell? ⟨sb,so+f,none⟩=some (.int .i64 sv)):=hid9 fun W1 hb=>by
      have hq:=below_keep hb
      exact ⟨hq _ _ d1,hq _ _ d3,⟨hq _ _ p0,hq _ _ p1,hq _ _ p2,hq _ _ p3⟩,hq _ _ q2⟩
     have hS0:=HSS.out wr HBw.out
     have HSl:Hid (Calls Tryz.prog 86 #[.agg #[v0,v1,v2,v3]] wr.drew fun e W1=>∃ a c,e=.returned (.slice a (fnN s f) c)∧(∃ u,W1.cell? ⟨W.heap.size,f,none⟩=some u)∧W1.frozen? ⟨W.heap.size,f,none⟩=false∧(W1.cell? ⟨db,1,none⟩=some (.slice (some ⟨fb,fo,none⟩) n fc)∧W1.cell? ⟨db,3,none⟩=some (.slice (some ⟨sb,so,none⟩) n sc)∧(W1.cell? ⟨fb,fo+f*4,none⟩=some v0∧W1.cell? ⟨fb,fo+f*4+1,none⟩=some v1∧W1.cell? ⟨fb,fo+f*4+2,none⟩=some v2∧W1.cell? ⟨fb,fo+f*4+3,none⟩=some v3)∧W1.cell? ⟨sb,so+f,none⟩=some (.int .i64 sv))∧(∀ u,(W1.setCell ⟨W.heap.size,f,none⟩ u).cell? ⟨db,1,none⟩=some (.slice (some ⟨fb,fo,none⟩) n fc)∧(W1.setCell ⟨W.heap.size,f,none⟩ u).cell? ⟨db,3,none⟩=some (.slice (some ⟨sb,so,none⟩) n sc)∧((W1.setCell ⟨W.heap.size,f,none⟩ u).cell? ⟨fb,fo+f*4,none⟩=some v0∧(W1.setCell ⟨W.heap.size,f,none⟩ u).cell? ⟨fb,fo+f*4+1,none⟩=some v1∧(W1.setCell ⟨W.heap.size,f,none⟩ u).cell? ⟨fb,fo+f*4+2,none⟩=some v2∧(W1.setCell ⟨W.heap.size,f,none⟩ u).cell? ⟨fb,fo+f*4+3,none⟩=some v3)∧(W1.setCell ⟨W.heap.size,f,none⟩ u).cell? ⟨sb,so+f,none⟩=some (.int .i64 sv))∧Hid (Below W.heap.size W W1∧FillB W1 W.heap.size R)):=hid9 ((HFi.out wr.drew HBw.out.drew).mono fun e W1 ⟨a,c,e1,h2⟩=>by
      have hb1:Below wr.heap.size wr W1:=(Below.refl _ _).drew.trans h2
      have hb2:Below W.heap.size W W1:=HBw.out.trans (hb1.mono HBw.out.size)
      have hF:FillB W1 W.heap.size R:=Fill.keep HFB.out (hb1.block _ (Fill.lt HFB.out))
      exact ⟨a,c,e1,⟨_,Fill.cell hF (by rw [hRl];exact hf)⟩,Fill.frozen hF f,HSS.out W1 hb2,fun u=>HSS.out _ (hb2.setCell (p:=⟨W.heap.size,f,none⟩) (Nat.le_refl _) u),hid9 ⟨hb2,hF⟩⟩)
     have hmb:mx≤32000000:=by
      have:(k:Int)*2000000≤16*2000000:=Int.mul_le_mul_of_nonneg_right (by omega) (by omega)
      omega
     have w1e:IntKind.i64.wrap ((fnN s f:Int)+sv)=(fnN s f:Int)+sv:=by rw [IntKind.wrap_i64];omega
     have w2e:IntKind.i64.wrap ((fnN s f:Int)+sv+mx)=(fnN s f:Int)+sv+mx:=by rw [IntKind.wrap_i64];omega
     generalize fnN s f=fn at *
     clear HFB HL HMx HOk HCs HQ HCe HCn HFi HI HT HSS
     go_wp2_with fail
     go_region_held3 (fun W=>W.cell? ⟨db,1,none⟩=some (.slice (some ⟨fb,fo,none⟩) n fc)∧W.cell? ⟨db,3,none⟩=some (.slice (some ⟨sb,so,none⟩) n sc)∧(W.cell? ⟨fb,fo+f*4,none⟩=some v0∧W.cell? ⟨fb,fo+f*4+1,none⟩=some v1∧W.cell? ⟨fb,fo+f*4+2,none⟩=some v2∧W.cell? ⟨fb,fo+f*4+3,none⟩=some v3)∧W.cell? ⟨sb,so+f,none⟩=some (.int .i64 sv)) (first | exact hS0 | exact hS1 | exact hset _ | go_keep) (first
      | (go_at_call 86;refine HSl.out.mono ?_;clear HSl;rintro e W1 ⟨a,c,rfl,⟨u,g1⟩,f1,hS1,hset,HW⟩))
     all_goals
      go_wp2_with fail
      exact ⟨⟨k+1,by go_num,by omega,hid9 (HEnd.out _ HW.out.1 HW.out.2)⟩,by simp [intOf];omega⟩
  ·have e:k=n:=by omega
   subst e
   have HE:Hid (NsAt wr.cell? (some ⟨W.heap.size,0,none⟩) (roomsS s S o)∧Below W.heap.size W wr):=hid9 (by
    have h:=HL.out.1
    rw [← ho,List.take_length] at h
    exact ⟨h.ns,HL.out.2.1⟩)
   clear HL
   go_wp2_with fail
   go_ret
   exact ⟨_,rfl,HE.out.1,Nat.le_refl _,HE.out.2⟩
set_option maxRecDepth 100000 in
set_option maxHeartbeats 2000000 in
theorem step7_gen (P:Nat→World→Prop)(n:Nat)(V0 V1:Value)(w:World)(db sb pb:Nat)(D:List Value)(W:World)(hS:St10 w db sb pb V0 V1 D W)(hD:D.length=8)
  (hA:∀ W0,Below W.heap.size W W0→Calls Tryz.prog 55 #[.pointer (some ⟨db,0,none⟩)] W0 fun e W1=>∃ g,e=.returned (.slice (some ⟨g,0,none⟩) n n)∧Below W0.heap.size W0 W1∧P g W1) :
  Calls Tryz.prog 54 #[.pointer (some ⟨pb,0,none⟩)] W fun e W'=>∃ (g:Nat) (W1:World),e=.returned (.int .i64 0)∧Below W.heap.size W W1∧W'=W1.setCell ⟨db,6,none⟩ (.slice (some ⟨g,0,none⟩) n n)∧St10 w db sb pb V0 V1 (D.set 6 (.slice (some ⟨g,0,none⟩) n n)) W'∧P g W1:=by
 have x2:=hS.cells.2.2
 have HA:Hid (∀ W0,(W0=W∨W0=W.drew)→Calls Tryz.prog 55 #[.pointer (some ⟨db,0,none⟩)] W0 fun e W1=>∃ g,e=.returned (.slice (some ⟨g,0,none⟩) n n)∧(∃ u,W1.cell? ⟨db,6,none⟩=some u)∧W1.frozen? ⟨db,6,none⟩=false∧W1.cell? ⟨pb,0,none⟩=some (.pointer (some ⟨db,0,none⟩))∧Hid (Below W.heap.size W W1∧St10 w db sb pb V0 V1 D W1∧P g W1)):=hid9 fun W0 hW0=>by
  have hb0:Below W.heap.size W W0:=by
   rcases hW0 with e | e
   ·rw [e];exact Below.refl _ _
   ·rw [e];exact (Below.refl _ _).drew
  refine (hA _ hb0).mono fun e W1 ⟨g,e1,h2,h3⟩=>?_
  have hb1:Below W.heap.size W W1:=hb0.trans (h2.mono hb0.size)
  have hS1:=hS.off hb1
  exact ⟨g,e1,⟨_,hS1.at (i:=6) (List.getElem?_eq_getElem (by omega))⟩,hS1.fz 6,hS1.cells.2.2,hid9 ⟨hb1,hS1,h3⟩⟩
 clear hA hS hD
 go_enter Tryz.func54,Tryz.ntmps54
 go_wp2_with (first
  | (go_at_call 55;refine (HA.out _ (.inl rfl)).mono ?_;clear HA;rintro e W1 ⟨g,rfl,⟨u,g1⟩,f1,y2,HW⟩)
  | fail)
 first
  | (go_region_held3 (fun W=>W.cell? ⟨pb,0,none⟩=some (.pointer (some ⟨db,0,none⟩))) (first | exact x2 | exact y2 | exact hset _ | go_keep) (first
    | (go_at_call 55;refine (HA.out _ (.inr rfl)).mono ?_;clear HA;rintro e W1 ⟨g,rfl,⟨u,g1⟩,f1,y2,HW⟩;have hset:∀ u,(W1.setCell ⟨db,6,none⟩ u).cell? ⟨pb,0,none⟩=some (.pointer (some ⟨db,0,none⟩)):=fun u=>(HW.out.2.1.set 6 u).cells.2.2)))
  | skip
 all_goals
  go_wp2_with fail
  go_ret
  exact ⟨g,W1,rfl,HW.out.1,rfl,HW.out.2.1.set 6 _,HW.out.2.2⟩
end Go.Proofs.YtpmlnkjamhelnaaGreat
