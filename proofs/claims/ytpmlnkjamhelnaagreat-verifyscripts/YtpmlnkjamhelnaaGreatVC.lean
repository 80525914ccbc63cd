/- ref.Compare, law2.Same of any two lists, Zero, Truth. -/
import Derived.Test.YtpmlnkjamhelnaaGreatPA
namespace Go.Proofs.YtpmlnkjamhelnaaGreat
open Go.RowKit
attribute [local go_sem high] eq_val eq_val0
theorem same_ne {L M:List Val}{k:Nat}(h1:k<L.length)(h2:k<M.length)(h:L[k]≠M[k]):decide (L=M)=false:=by
 rw [decide_eq_false_iff_not]
 intro e
 subst e
 exact h rfl
set_option maxHeartbeats 1000000 in
theorem same_gen (a b:Option Addr)(n m c d:Nat)(L M:List Val)(hn:L.length=n)(hm:M.length=m)(w:World)(ha:Vs w a L)(hb:Vs w b M)(hl:n≤140737488351232)(hl':m≤140737488351232):Calls Tryz.prog 19 #[.slice a n c,.slice b m d] w fun e w'=>e=.returned (.bool (decide (L=M)))∧∃ k,w'=w.drewN k:=by
 by_cases hnm:n=m
 ·subst hnm
  go_enter Tryz.func19,Tryz.ntmps19
  go_wp2
  go_loopw [5] (fun i wr=>∃ k m:Nat,k≤n∧i=.int .i64 k∧(∀ j (h1:j<L.length) (h2:j<M.length),j<k→L[j]=M[j])∧wr=w.drewN m) (fun i _=>n - (intOf i).toNat)
  case atStart=>exact ⟨0,0,Nat.zero_le _,rfl,by omega,rfl⟩
  case round =>
   obtain ⟨k,m,hk,rfl,hr,rfl⟩:=hrel
   by_cases hlt:k<n
   ·rcases ha with h0 | ⟨b0,off0,rfl,hc0⟩
    ·subst h0;simp at hn;omega
    rcases hb with h0 | ⟨b1,off1,rfl,hc1⟩
    ·subst h0;simp at hm;omega
    obtain ⟨c0,c1,c2⟩:=hc0 k (by omega)
    obtain ⟨d0,d1,d2⟩:=hc1 k (by omega)
    have HN:Hid (L[k]≠M[k]→decide (L=M)=false):=hidV (same_ne (by omega) (by omega))
    have HT:Hid (L[k]=M[k]→∀ j (h1:j<L.length) (h2:j<M.length),j<k+1→L[j]=M[j]):=hidV fun h j h1 h2 hjk=>by
     rcases Nat.lt_or_ge j k with h3 | h3
     ·exact hr j h1 h2 h3
     ·obtain rfl:j=k:=by omega
      exact h
    generalize L[k]=x at c0 c1 c2 HN HT
    generalize M[k]=y at d0 d1 d2 HN HT
    obtain ⟨xt,xn,xb⟩:=x
    obtain ⟨yt,yn,yb⟩:=y
    simp only at c0 c1 c2 d0 d1 d2
    clear hc0 hc1
    by_cases h1:xt=yt
    ·subst h1
     by_cases h2:xn=yn
     ·subst h2
      by_cases h3:xb=yb
      ·subst h3
       go_wp2
       go_quiet (fail)
       go_wp2
       refine ⟨⟨k+1,_,by omega,by go_num,HT.out (by simp),rfl⟩,by simp [intOf];omega⟩
      ·have q:(xb != yb)=true:=by simp [h3]
       have q':(xb == yb)=false:=by simp [h3]
       go_wp2
       go_quiet (fail)
       go_wp2
       go_ret
       exact ⟨by rw [HN.out (by simp [h3])];rfl,m+nq,World.drewN_drewN _ _ _⟩
     ·have q:(xn != yn)=true:=by simp [h2]
      go_wp2
      go_quiet (fail)
      go_wp2
      go_ret
      exact ⟨by rw [HN.out (by simp [h2])];rfl,m+nq,World.drewN_drewN _ _ _⟩
    ·have q:(xt != yt)=true:=by simp [h1]
     go_wp2
     go_quiet (fail)
     go_wp2
     go_ret
     exact ⟨by rw [HN.out (by simp [h1])];rfl,m+nq,World.drewN_drewN _ _ _⟩
   ·have hE:decide (L=M)=true:=by
     rw [decide_eq_true_iff]
     exact List.ext_getElem (by omega) fun j h1 h2=>hr j h1 h2 (by omega)
    go_wp2
    go_ret
    exact ⟨by rw [hE];rfl,_,rfl⟩
 ·have hE:decide (L=M)=false:=by
   rw [decide_eq_false_iff_not]
   intro e
   subst e
   omega
  have hne:((n:Int) != (m:Int))=true:=by simp;omega
  rw [hE]
  go_enter Tryz.func19,Tryz.ntmps19
  go_wp2
  go_ret
  exact ⟨rfl,0,rfl⟩
end Go.Proofs.YtpmlnkjamhelnaaGreat
