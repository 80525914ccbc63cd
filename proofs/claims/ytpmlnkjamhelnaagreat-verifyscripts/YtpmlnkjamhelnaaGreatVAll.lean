/- value.allRight. -/
import Derived.Test.YtpmlnkjamhelnaaGreatVR
namespace Go.Proofs.YtpmlnkjamhelnaaGreat
open Go.RowKit
attribute [local go_sem high] eq_val eq_val0
set_option maxRecDepth 100000 in
set_option maxHeartbeats 1000000 in
theorem allRight_any (a:Option Addr)(n c:Nat)(L:List Val)(hn:L.length=n)(w:World)(hV:Vs w a L)(hF:Fair L)(hl:n≤140737488351232):Calls Tryz.prog 62 #[.slice a n c] w fun e w'=>e=.returned (.bool (L.all Val.right))∧Below w.heap.size w w':=by
 go_enter Tryz.func62,Tryz.ntmps62
 go_wp2
 go_loopw [7] (fun i wr=>∃ k:Nat,k≤n∧i=.int .i64 k∧(∀ j (h:j<L.length),j<k→L[j].right=true)∧Below w.heap.size w wr) (fun i _=>n - (intOf i).toNat)
 case atStart=>exact ⟨0,Nat.zero_le _,rfl,by omega,Below.refl _ _⟩
 case round =>
  obtain ⟨k,hk,rfl,hr,hb⟩:=hrel
  by_cases hlt:k<n
  ·rcases hV.keep hb with h0 | ⟨b,off,hao,hc⟩
   ·subst h0;simp at hn;omega
   ·subst hao
    obtain ⟨c0,c1,c2⟩:=hc k (by omega)
    have hx:=hF L[k] (by simp)
    have HF:Hid (L[k].right=false→L.all Val.right=false):=hidV fun h=>by
     rw [List.all_eq_false]
     exact ⟨L[k],by simp,by simp [h]⟩
    have HT:Hid (L[k].right=true→∀ j (h:j<L.length),j<k+1→L[j].right=true):=hidV fun h j hj hjk=>by
     rcases Nat.lt_or_ge j k with h1 | h1
     ·exact hr j hj h1
     ·obtain rfl:j=k:=by omega
      exact h
    generalize L[k]=x at c0 c1 c2 hx HF HT
    have hx':=right_any x hx
    obtain ⟨xt,xn,xb⟩:=x
    simp only [Val.v] at hx'
    clear hc hV hF
    generalize hR:Val.right ⟨xt,xn,xb⟩=R at hx' HF HT
    cases R with
    | false =>
     go_wp2_with (go_at_call 99;refine (hx' _).mono ?_;rintro e w2 ⟨rfl,hb2⟩)
     go_ret
     exact ⟨by rw [HF.out trivial];rfl,(hb.alloc hb.size _).trans (hb2.mono (by have:=hb.size;simp;omega))⟩
    | true =>
     go_wp2_with (go_at_call 99;refine (hx' _).mono ?_;rintro e w2 ⟨rfl,hb2⟩)
     refine ⟨⟨k+1,by omega,by go_num,HT.out trivial,(hb.alloc hb.size _).trans (hb2.mono (by have:=hb.size;simp;omega))⟩,by simp [intOf];omega⟩
  ·have hE:L.all Val.right=true:=by
    rw [List.all_eq_true]
    intro x hx
    obtain ⟨j,hj,rfl⟩:=List.mem_iff_getElem.1 hx
    exact hr j hj (by omega)
   go_wp2
   go_ret
   exact ⟨by rw [hE];rfl,hb⟩
end Go.Proofs.YtpmlnkjamhelnaaGreat
