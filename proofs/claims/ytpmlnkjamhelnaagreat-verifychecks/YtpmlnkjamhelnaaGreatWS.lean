/- What the document's own Frame comes to, and the law's helper Stays. -/
import Derived.Test.YtpmlnkjamhelnaaGreatWR
namespace Go.Proofs.YtpmlnkjamhelnaaGreat
open Go.RowKit
set_option maxHeartbeats 1000000 in
theorem stays_any (g len cap:Nat)(base:Nat)(bs:List UInt8)(ao:Option Addr)(c:Nat)(w:World)(hl:bs.length=len)(hm:len≤140737488351232)(hO:OwnB w base (.slice (some ⟨g,0,none⟩) (len+2) cap) (bs++[77,78]))(hb:Bs w ao bs) :
  Calls Tryz.prog 10 #[.slice (some ⟨g,0,none⟩) len cap,.slice ao len c] w fun e w'=>e=.returned (.bool true)∧Below w.heap.size w w':=by
 obtain ⟨hcap,hmx,hcell⟩:len+2≤cap∧cap≤maxLen∧∀ j u,((bs++[77,78]).map bv)[j]?=some u→w.cell? ⟨g,j,none⟩=some u:=by
  obtain ⟨ao',cap',hv,h1,h2,_,_,h5⟩:=Own.form hO
  simp only [Value.slice.injEq] at hv
  obtain ⟨rfl,_,rfl⟩:=hv
  obtain ⟨g',hg',hc⟩:=h5 _ rfl
  cases hg'
  simp only [List.length_map,List.length_append,hl] at h1
  exact ⟨h1,h2,hc⟩
 have hB1:Bs w (some ⟨g,0,none⟩) bs:=by
  refine .inr ⟨g,0,rfl,fun j hj=>?_⟩
  rw [Nat.zero_add]
  refine hcell j _ ?_
  rw [List.getElem?_map,List.getElem?_append_left hj,List.getElem?_eq_getElem hj];rfl
 have c77:w.cell? ⟨g,len,none⟩=some (.int .u8 77):=hcell len _ (by subst hl;rw [List.getElem?_map,List.getElem?_append_right (Nat.le_refl _)];simp [bv])
 have c78:w.cell? ⟨g,len+1,none⟩=some (.int .u8 78):=hcell (len+1) _ (by subst hl;rw [List.getElem?_map,List.getElem?_append_right (by omega)];simp [bv])
 have s1:∀ nq,(convert 22 9 (.slice (some ⟨g,0,none⟩) len cap)).run Tryz.prog (w.drewN nq)=.ok (.string ⟨bs.toArray⟩) (w.drewN nq):=fun nq=>by
  subst hl;exact run_str (hB1.keep (fun a v h=>by simpa using h)) cap
 have s2:∀ nq,(convert 22 9 (.slice ao len c)).run Tryz.prog (w.drewN nq)=.ok (.string ⟨bs.toArray⟩) (w.drewN nq):=fun nq=>by
  subst hl;exact run_str (hb.keep (fun a v h=>by simpa using h)) c
 have hi1:(0:Int)≤(len:Int)+2:=by omega
 have hi2:(len:Int)+2≤(cap:Int):=by omega
 unfold maxLen at hmx
 clear hcell hB1 hO hb
 go_enter Tryz.func10,Tryz.ntmps10
 go_wp2
 go_quiet (fail)
 go_wp2
 go_ret
 exact ⟨rfl,below_drewN (Below.refl _ _) _⟩
end Go.Proofs.YtpmlnkjamhelnaaGreat
