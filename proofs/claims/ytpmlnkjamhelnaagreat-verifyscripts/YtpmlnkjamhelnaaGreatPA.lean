/- The document's Right, All, Fits; layer 2's helper 'Same'. -/
import Derived.Test.YtpmlnkjamhelnaaGreatOF
namespace Go.Proofs.YtpmlnkjamhelnaaGreat
open Go.RowKit
attribute [local go_sem high] eq_val eq_val0
set_option maxHeartbeats 1000000 in
theorem rright_any (x:Val)(_hb:x.b.length≤9223372036854775807)(w:World):Calls Tryz.prog 100 #[x.v] w fun e w'=>e=.returned (.bool x.right)∧Below w.heap.size w w':=by
 obtain ⟨t,n,b⟩:=x
 simp only [Val.v,Val.right] at _hb ⊢
 by_cases h1:t=1
 ·subst h1
  go_enter Tryz.func100,Tryz.ntmps100
  go_wp2
  go_ret
  exact ⟨by cases b <;> simp,(Below.refl _ w).alloc (Nat.le_refl _) _⟩
 by_cases h2:t=2
 ·subst h2
  by_cases hn:n=0
  ·subst hn
   go_enter Tryz.func100,Tryz.ntmps100
   go_wp2
   all_goals (go_ret;exact ⟨by simp;try omega,(Below.refl _ w).alloc (Nat.le_refl _) _⟩)
  ·have hn':(n == 0)=false:=by simp [hn]
   go_enter Tryz.func100,Tryz.ntmps100
   go_wp2
   all_goals (go_ret;exact ⟨by simp,(Below.refl _ w).alloc (Nat.le_refl _) _⟩)
 by_cases h3:t=3
 ·subst h3
  by_cases hn:n=0
  ·subst hn
   go_enter Tryz.func100,Tryz.ntmps100
   go_wp2
   all_goals (go_ret;exact ⟨by cases b <;> simp,(Below.refl _ w).alloc (Nat.le_refl _) _⟩)
  ·have hn':(n == 0)=false:=by simp [hn]
   by_cases hm:n=1
   ·subst hm
    go_enter Tryz.func100,Tryz.ntmps100
    go_wp2
    all_goals (go_ret;exact ⟨by cases b <;> simp,(Below.refl _ w).alloc (Nat.le_refl _) _⟩)
   ·have hm':(n == 1)=false:=by simp [hm]
    go_enter Tryz.func100,Tryz.ntmps100
    go_wp2
    all_goals (go_ret;exact ⟨by simp,(Below.refl _ w).alloc (Nat.le_refl _) _⟩)
 have e1:(t == 1)=false:=by simp [h1]
 have e2:(t == 2)=false:=by simp [h2]
 have e3:(t == 3)=false:=by simp [h3]
 go_enter Tryz.func100,Tryz.ntmps100
 go_wp2
 go_ret
 exact ⟨by simp,(Below.refl _ w).alloc (Nat.le_refl _) _⟩
set_option maxHeartbeats 1000000 in
theorem rall_any (a:Option Addr)(n c:Nat)(L:List Val)(hn:L.length=n)(w:World)(hV:Vs w a L)(hF:Fair L)(hl:n≤140737488351232):Calls Tryz.prog 63 #[.slice a n c] w fun e w'=>e=.returned (.bool (L.all Val.right))∧Below w.heap.size w w':=by
 go_enter Tryz.func63,Tryz.ntmps63
 go_wp2
 go_loopw [3] (fun i wr=>∃ k:Nat,k≤n∧i=.int .i64 k∧(∀ j (h:j<L.length),j<k→L[j].right=true)∧Below w.heap.size w wr) (fun i _=>n - (intOf i).toNat)
 case atStart=>exact ⟨0,Nat.zero_le _,rfl,by omega,Below.refl _ _⟩
 case round =>
  obtain ⟨k,hk,rfl,hr,hb⟩:=hrel
  by_cases hlt:k<n
  ·rcases hV.keep hb with h0 | ⟨b,off,hao,hc⟩
   ·subst h0;simp at hn;omega
   ·subst hao
    obtain ⟨c0,c1,c2⟩:=hc k (by omega)
    have hx:=hF L[k] (by simp)
    have HF:Hid (L[k].right=false→L.all Val.right=false):=hidV fun h=>by
     rw [List.all_eq_false]
     exact ⟨L[k],by simp,by simp [h]⟩
    have HT:Hid (L[k].right=true→∀ j (h:j<L.length),j<k+1→L[j].right=true):=hidV fun h j hj hjk=>by
     rcases Nat.lt_or_ge j k with h1 | h1
     ·exact hr j hj h1
     ·obtain rfl:j=k:=by omega
      exact h
    generalize L[k]=x at c0 c1 c2 hx HF HT
    have hx':=rright_any x hx
    obtain ⟨xt,xn,xb⟩:=x
    simp only [Val.v] at hx'
    clear hc hV hF
    generalize hR:Val.right ⟨xt,xn,xb⟩=R at hx' HF HT
    cases R with
    | false =>
     go_wp2_with (go_at_call 100;refine (hx' _).mono ?_;rintro e w2 ⟨rfl,hb2⟩)
     go_ret
     exact ⟨by rw [HF.out trivial];rfl,hb.trans (hb2.mono hb.size)⟩
    | true =>
     go_wp2_with (go_at_call 100;refine (hx' _).mono ?_;rintro e w2 ⟨rfl,hb2⟩)
     refine ⟨⟨k+1,by omega,by go_num,HT.out trivial,hb.trans (hb2.mono hb.size)⟩,by simp [intOf];omega⟩
  ·have hE:L.all Val.right=true:=by
    rw [List.all_eq_true]
    intro x hx
    obtain ⟨j,hj,rfl⟩:=List.mem_iff_getElem.1 hx
    exact hr j hj (by omega)
   go_wp2
   go_ret
   exact ⟨by rw [hE];rfl,hb⟩
set_option maxHeartbeats 1000000 in
theorem rfits_any (a:Option Addr)(n c:Nat)(L:List Val)(hn:L.length=n)(b:Option Addr)(m d:Nat)(ts:List Int)(hm:ts.length=m)(w:World)(hV:Vs w a L)(hT:IntsAt w b ts)(hF:Fair L)(hl:n≤140737488351232) :
  Calls Tryz.prog 32 #[.slice a n c,.slice b m d] w fun e w'=>e=.returned (.bool (fitsB L ts))∧Below w.heap.size w w':=by
 have hA:=rall_any a n c L hn w hV hF hl
 by_cases hnm:n=m
 ·subst hnm
  cases hR:L.all Val.right with
  | false =>
   have hE:fitsB L ts=false:=by unfold fitsB;rw [hR,Bool.and_false]
   rw [hE]
   rw [hR] at hA
   go_enter Tryz.func32,Tryz.ntmps32
   go_wp2_with (go_at_call 63;refine hA.mono ?_;rintro e w2 ⟨rfl,hb2⟩)
   go_ret
   exact ⟨rfl,hb2⟩
  | true =>
   rw [hR] at hA
   go_enter Tryz.func32,Tryz.ntmps32
   go_wp2_with (go_at_call 63;refine hA.mono ?_;rintro e w2 ⟨rfl,hb2⟩)
   go_loopw [5] (fun i wr=>∃ k:Nat,k≤n∧i=.int .i64 k∧(∀ j (h:j<L.length) (h':j<ts.length),j<k→L[j].t=ts[j])∧Below w.heap.size w wr) (fun i _=>n - (intOf i).toNat)
   case atStart=>exact ⟨0,Nat.zero_le _,rfl,by omega,hb2⟩
   case round =>
    obtain ⟨k,hk,rfl,hr,hb⟩:=hrel
    by_cases hlt:k<n
    ·rcases hV.keep hb with h0 | ⟨b0,off,hao,hc⟩
     ·subst h0;simp at hn;omega
     rcases hT.keep hb with h0 | ⟨b1,off1,hao1,hc1⟩
     ·subst h0;simp at hm;omega
     subst hao
     subst hao1
     obtain ⟨c0,c1,c2⟩:=hc k (by omega)
     have d0:=hc1 k (by omega)
     have HF:Hid (L[k].t≠ts[k]→fitsB L ts=false):=hidV fun h=>by
      unfold fitsB
      rw [decide_eq_false (map_t_ne (by omega) (by omega) h),Bool.false_and]
     have HT:Hid (L[k].t=ts[k]→∀ j (h:j<L.length) (h':j<ts.length),j<k+1→L[j].t=ts[j]):=hidV fun h j hj hj' hjk=>by
      rcases Nat.lt_or_ge j k with h1 | h1
      ·exact hr j hj hj' h1
      ·obtain rfl:j=k:=by omega
       exact h
     generalize L[k]=x at c0 c1 c2 HF HT
     generalize ts[k]=y at d0 HF HT
     obtain ⟨xt,xn,xb⟩:=x
     simp only at c0 c1 c2 HF HT
     clear hc hV hF hc1 hT hr hA
     by_cases hxy:xt=y
     ·subst hxy
      go_wp2
      go_quiet (fail)
      go_wp2
      refine ⟨⟨k+1,by omega,by go_num,HT.out trivial,below_draws hb _⟩,by simp [intOf];omega⟩
     ·have hne:(xt != y)=true:=by simp [hxy]
      go_wp2
      go_quiet (fail)
      go_wp2
      go_ret
      exact ⟨by rw [HF.out hxy];rfl,below_draws hb _⟩
    ·have hE:L.map Val.t=ts:=by
      apply List.ext_getElem (by simp;omega)
      intro j h1 h2
      simp only [List.length_map] at h1
      rw [List.getElem_map]
      exact hr j h1 h2 (by omega)
     have hE2:Hid (fitsB L ts=true):=hidV (by unfold fitsB;rw [decide_eq_true hE,hR];rfl)
     clear hE hr
     go_wp2
     go_ret
     exact ⟨by rw [hE2.out];rfl,hb⟩
 ·have hE:fitsB L ts=false:=by
   unfold fitsB
   rw [decide_eq_false (fun e=>hnm (by rw [← hn,← hm,← e];simp)),Bool.false_and]
  rw [hE]
  have hne:((n:Int) != (m:Int))=true:=by simp;omega
  go_enter Tryz.func32,Tryz.ntmps32
  go_wp2
  go_ret
  exact ⟨rfl,Below.refl _ _⟩
end Go.Proofs.YtpmlnkjamhelnaaGreat
