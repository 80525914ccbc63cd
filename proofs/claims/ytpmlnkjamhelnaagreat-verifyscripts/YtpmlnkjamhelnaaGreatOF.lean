/- value.Fits, Compare; op's fault, number, text, truth, answer. -/
import Derived.Test.YtpmlnkjamhelnaaGreatVAll
import Derived.Test.YtpmlnkjamhelnaaGreatOC
namespace Go.Proofs.YtpmlnkjamhelnaaGreat
open Go.RowKit
attribute [local go_sem high] eq_val eq_val0
def fitsB (L:List Val)(ts:List Int):Bool:=decide (L.map Val.t=ts) && L.all Val.right
def IntsAt (w:World)(a:Option Addr)(ts:List Int):Prop:=ts=[]∨∃ b off,a=some ⟨b,off,none⟩∧∀ j (h:j<ts.length),w.cell? ⟨b,off+j,none⟩=some (.int .i64 ts[j])
theorem IntsAt.keep {w w':World}{a:Option Addr}{L:List Int}(h:IntsAt w a L)(hb:Below w.heap.size w w'):IntsAt w' a L:=by
 rcases h with h | ⟨b,off,e,hc⟩
 ·exact .inl h
 ·exact .inr ⟨b,off,e,fun j hj=>cell_below (hc j hj) hb⟩
theorem below_draws {B:Nat}{a w:World}(h:Below B a w)(m:Nat):Below B a (w.drewN m):=⟨h.os,h.tape,h.output,h.size,h.block⟩
theorem map_t_ne {L:List Val}{ts:List Int}{k:Nat}(h1:k<L.length)(h2:k<ts.length)(h:L[k].t≠ts[k]):L.map Val.t≠ts:=by
 intro e
 subst e
 simp at h
set_option maxHeartbeats 1000000 in
theorem fits_any (a:Option Addr)(n c:Nat)(L:List Val)(hn:L.length=n)(b:Option Addr)(m d:Nat)(ts:List Int)(hm:ts.length=m)(w:World)(hV:Vs w a L)(hT:IntsAt w b ts)(hF:Fair L)(hl:n≤140737488351232) :
  Calls Tryz.prog 31 #[.slice a n c,.slice b m d] w fun e w'=>e=.returned (.bool (fitsB L ts))∧Below w.heap.size w w':=by
 by_cases hnm:n=m
 ·subst hnm
  go_enter Tryz.func31,Tryz.ntmps31
  go_wp2
  go_loopw [14] (fun i wr=>∃ k:Nat,k≤n∧i=.int .i64 k∧(∀ j (h:j<L.length) (h':j<ts.length),j<k→L[j].t=ts[j])∧Below w.heap.size w wr) (fun i _=>n - (intOf i).toNat)
  case atStart=>exact ⟨0,Nat.zero_le _,rfl,by omega,Below.refl _ _⟩
  case round =>
   obtain ⟨k,hk,rfl,hr,hb⟩:=hrel
   by_cases hlt:k<n
   ·rcases hV.keep hb with h0 | ⟨b0,off,hao,hc⟩
    ·subst h0;simp at hn;omega
    rcases hT.keep hb with h0 | ⟨b1,off1,hao1,hc1⟩
    ·subst h0;simp at hm;omega
    subst hao
    subst hao1
    obtain ⟨c0,c1,c2⟩:=hc k (by omega)
    have d0:=hc1 k (by omega)
    have HF:Hid (L[k].t≠ts[k]→fitsB L ts=false):=hidV fun h=>by
     unfold fitsB
     rw [decide_eq_false (map_t_ne (by omega) (by omega) h),Bool.false_and]
    have HT:Hid (L[k].t=ts[k]→∀ j (h:j<L.length) (h':j<ts.length),j<k+1→L[j].t=ts[j]):=hidV fun h j hj hj' hjk=>by
     rcases Nat.lt_or_ge j k with h1 | h1
     ·exact hr j hj hj' h1
     ·obtain rfl:j=k:=by omega
      exact h
    generalize L[k]=x at c0 c1 c2 HF HT
    generalize ts[k]=y at d0 HF HT
    obtain ⟨xt,xn,xb⟩:=x
    simp only at c0 c1 c2 HF HT
    have hz:=hb.size
    have d1:(wr.alloc (.cells #[.int .i64 xt,.int .i64 xn,.string ⟨xb.toArray⟩] 76)).cell? ⟨b1,off1+k,none⟩=some (.int .i64 y):=keep_alloc _ _ _ _ d0
    clear hc hV hF hc1 hT hr d0
    by_cases hxy:xt=y
    ·subst hxy
     go_wp2
     go_quiet (fail)
     go_wp2
     refine ⟨⟨k+1,by omega,by go_num,HT.out trivial,below_draws (hb.alloc hb.size _) _⟩,by simp [intOf];omega⟩
    ·have hne:(xt != y)=true:=by simp [hxy]
     go_wp2
     go_quiet (fail)
     go_wp2
     go_ret
     exact ⟨by rw [HF.out hxy];rfl,below_draws (hb.alloc hb.size _) _⟩
   ·have hE:L.map Val.t=ts:=by
     apply List.ext_getElem (by simp;omega)
     intro j h1 h2
     simp only [List.length_map] at h1
     rw [List.getElem_map]
     exact hr j h1 h2 (by omega)
    have hA:=allRight_any a n c L hn wr (hV.keep hb) hF hl
    have hE2:Hid (fitsB L ts=L.all Val.right):=hidV (by unfold fitsB;rw [decide_eq_true hE,Bool.true_and])
    clear hE
    go_wp2_with (go_at_call 62;refine hA.mono ?_;rintro e w2 ⟨rfl,hb2⟩)
    go_ret
    exact ⟨by rw [hE2.out];rfl,hb.trans (hb2.mono hb.size)⟩
 ·have hE:fitsB L ts=false:=by
   unfold fitsB
   rw [decide_eq_false (fun e=>hnm (by rw [← hn,← hm,← e];simp)),Bool.false_and]
  rw [hE]
  have hne:((n:Int) != (m:Int))=true:=by simp;omega
  go_enter Tryz.func31,Tryz.ntmps31
  go_wp2
  go_ret
  exact ⟨rfl,Below.refl _ _⟩
end Go.Proofs.YtpmlnkjamhelnaaGreat
