/- Layer 8: places, straight, Deep. Layer 8: IndexFunc, ContainsFunc; line's closures. Layer 8: line. Layer 8: Order. -/
import Derived.Test.YtpmlnkjamhelnaaGreatXJ
import Derived.Test.YtpmlnkjamhelnaaGreatXG
import Derived.Test.YtpmlnkjamhelnaaGreatXE
namespace Go.Proofs.YtpmlnkjamhelnaaGreat
open Go.RowKit
def PlacesEnd (n:Nat)(w:World)(e:Ending)(w':World):Prop:=e=.returned (.slice (some ⟨w.heap.size,0,none⟩) n n)∧Fill w' w.heap.size 3 n (fun j=>.int .i64 j)∧Below w.heap.size w w'
set_option maxRecDepth 100000 in
set_option maxHeartbeats 1000000 in
theorem places_any (ga:Option Addr)(n gc:Nat)(hn:n≤100000)(w:World):Calls Tryz.prog 115 #[.slice ga n gc] w (PlacesEnd n w):=by
 obtain ⟨w2,hm2,F2,b2⟩:=made8 w 28 3 (.int .i64 0) 8 n Tryz.underlying28 (by kernel_rfl) rfl (by omega) hn
 have HF:=hid7 (And.intro F2 b2)
 clear F2 b2
 go_enter Tryz.func115,Tryz.ntmps115
 go_wp2_with fail
 go_loopw [10] (fun iv wr=>∃ k:Nat,iv=.int .i64 k∧k≤n∧Hid (Fill wr w.heap.size 3 n (fun j=>.int .i64 (if j<k then (j:Int) else 0))∧Below w.heap.size w wr)) (fun iv _=>n - (intOf iv).toNat)
 case atStart=>exact ⟨0,rfl,Nat.zero_le _,hid7 ⟨HF.out.1.congr fun j _=>by simp,HF.out.2⟩⟩
 case round =>
  obtain ⟨k,rfl,hk,HL⟩:=hrel
  clear HF
  by_cases hlt:k<n
  ·have g1:=HL.out.1.cell hlt
   have g2:=HL.out.1.frozen k
   rw [if_neg (by omega)] at g1
   have L4:Hid (Fill (wr.setCell ⟨w.heap.size,k,none⟩ (.int .i64 k)) w.heap.size 3 n (fun j=>.int .i64 (if j<k+1 then (j:Int) else 0))∧Below w.heap.size w (wr.setCell ⟨w.heap.size,k,none⟩ (.int .i64 k))):=hid7 ⟨(HL.out.1.set k _).congr fun j _=>by
    by_cases e:j=k
    ·subst e;simp
    ·rw [if_neg e]
     by_cases e2:j<k
     ·rw [if_pos e2,if_pos (by omega)]
     ·rw [if_neg e2,if_neg (by omega)],HL.out.2.setCell (p:=⟨w.heap.size,k,none⟩) (Nat.le_refl _) _⟩
   clear HL
   go_wp2_with fail
   exact ⟨⟨k+1,by go_num,by omega,L4⟩,by simp [intOf];omega⟩
  ·obtain rfl:k=n:=by omega
   have HE:Hid (PlacesEnd k w (.returned (.slice (some ⟨w.heap.size,0,none⟩) k k)) wr):=hid7 ⟨rfl,HL.out.1.congr fun j hj=>by rw [if_pos hj],HL.out.2⟩
   clear HL
   go_wp2_with fail
   go_ret
   exact HE.out
def gF (s:Scr):Nat→List Nat:=gOf (graphS s)
theorem graph_inn (s:Scr):Inn s.funcs.length (gF s)∧(∀ x c,c ∈ gF s x→x<s.funcs.length)∧(∀ l ∈ graphS s,l.length≤s.funcs.length)∧(graphS s).length=s.funcs.length:=by
 have h0:∀ x c,c ∈ gF s x→x<s.funcs.length∧c<s.funcs.length:=fun x c hc=>by
  unfold gF gOf at hc
  rw [List.getD_eq_getElem?_getD] at hc
  by_cases hx:x<(graphS s).length
  ·have hx2:x<s.funcs.length:=by simpa [graphS] using hx
   rw [List.getElem?_eq_getElem hx] at hc
   simp only [graphS,List.getElem_map,Option.getD_some,gRow,List.mem_filter,List.mem_range] at hc
   exact ⟨hx2,hc.1⟩
  ·rw [List.getElem?_eq_none (by omega)] at hc
   cases hc
 refine ⟨fun x hx c hc=>(h0 x c hc).2,fun x c hc=>(h0 x c hc).1,fun l hl=>?_,by simp [graphS]⟩
 obtain ⟨f,_,rfl⟩:=List.mem_map.1 hl
 unfold gRow
 exact Nat.le_trans (List.length_filter_le _ _) (by simp)
def StrEnd (s:Scr)(w:World)(e:Ending)(w':World):Prop :=
 Below w.heap.size w w'∧if s.right=true then (if (ordS s.funcs.length (gF s)).isNone=true then e=.returned (.tuple #[.slice none 0 0,.map none,.int .i64 34])
  else ∃ ga gc mb m,e=.returned (.tuple #[.slice ga s.funcs.length gc,.map (some mb),.int .i64 0])∧RsAt w'.cell? ga (rowsI (graphS s))∧MapN w' mb s.funcs.length (2*s.funcs.length) m∧Wlk (gF s) (List.range s.funcs.length) m false)
 else e=.returned (.tuple #[.slice none 0 0,.map none,.int .i64 30])
theorem fill_ns {w:World}{b n:Nat}(h:Fill w b 3 n (fun j=>.int .i64 j)):NsAt w.cell? (some ⟨b,0,none⟩) (rowI (List.range n)):=by
 refine .inr ⟨b,0,rfl,fun j hj=>?_⟩
 have hj2:j<n:=by simpa [rowI] using hj
 rw [Nat.zero_add,h.cell hj2]
 simp [rowI]
set_option maxRecDepth 100000 in
set_option maxHeartbeats 1000000 in
theorem straight_any (s:Scr)(V0 V1:Value)(w:World)(hs:ScIs w.cell? s V0 V1)(hsf:s.fits):Calls Tryz.prog 82 #[.agg #[V0,V1]] w (StrEnd s w):=by
 obtain ⟨⟨a0,c0,rfl,n0⟩,⟨a1,c1,rfl,n1⟩⟩:=hs
 have b1:=(Below.refl _ w).alloc (Nat.le_refl _) (.cells #[.slice a0 s.consts.length c0,.slice a1 s.funcs.length c1] 27)
 have hG:=graph_any s _ _ (w.alloc (.cells #[.slice a0 s.consts.length c0,.slice a1 s.funcs.length c1] 27)) ⟨⟨a0,c0,rfl,n0.keep (below_keep b1)⟩,⟨a1,c1,rfl,n1.keep (below_keep b1)⟩⟩ hsf
 by_cases hr:s.right=true
 ·obtain ⟨r1,r2,r3⟩:=right_calls hr
  obtain ⟨i1,i2,i3,i4⟩:=graph_inn s
  have HG:Hid (Calls Tryz.prog 53 #[.agg #[.slice a0 s.consts.length c0,.slice a1 s.funcs.length c1]] (w.alloc (.cells #[.slice a0 s.consts.length c0,.slice a1 s.funcs.length c1] 27)) fun e w1=>∃ ga gc,e=.returned (.tuple #[.slice ga s.funcs.length gc,.int .i64 0])∧Hid (RsAt w1.cell? ga (rowsI (graphS s))∧Below w.heap.size w w1)):=hid7 (hG.mono fun e w1 ⟨h1,h2⟩=>by
   rw [if_pos hr] at h1
   obtain ⟨ga,gc,e1,h3⟩:=h1
   exact ⟨ga,gc,e1,hid7 ⟨h3,b1.trans (h2.mono b1.size)⟩⟩)
  have HW:Hid (∀ ga gc w1 w2,RsAt w1.cell? ga (rowsI (graphS s))→PlacesEnd s.funcs.length w1 (.returned (.slice (some ⟨w1.heap.size,0,none⟩) s.funcs.length s.funcs.length)) w2→Calls Tryz.prog 114 #[.slice ga s.funcs.length gc,.slice (some ⟨w1.heap.size,0,none⟩) s.funcs.length s.funcs.length] w2 (WalkEnd8 (graphS s) (List.range s.funcs.length) s.funcs.length w2)):=hid7 fun ga gc w1 w2 h1 h2=>walk8_any (graphS s) s.funcs.length gc ga i4 (by omega) i1 (fun l hl=>by have:=i3 l hl;omega) (List.range s.funcs.length) _ _ _ (by simp) (by omega) (by simp) w2 (h1.keep (below_keep h2.2.2)) (fill_ns h2.2.1)
  have HE1:Hid (∀ ga gc mb m r w1 w2 w3,Below w.heap.size w w1→RsAt w1.cell? ga (rowsI (graphS s))→Below w1.heap.size w1 w2→Below w2.heap.size w2 w3→Wlk (gF s) (List.range s.funcs.length) m r→MapN w3 mb s.funcs.length (2*s.funcs.length) m→StrEnd s w (.returned (.tuple (if r=true then #[.slice none 0 0,.map none,.int .i64 34] else #[.slice ga s.funcs.length gc,.map (some mb),.int .i64 0]))) w3):=hid7 fun ga gc mb m r w1 w2 w3 h1 h2 h3 h4 h5 h6=>by
   have b3:=h3.trans (h4.mono h3.size)
   refine ⟨h1.trans (b3.mono h1.size),?_⟩
   rw [if_pos hr,← wlk_ord i1 i2 h5]
   cases r with
   | true=>rw [if_pos rfl,if_pos rfl]
   | false =>
    rw [if_neg (by simp),if_neg (by simp)]
    exact ⟨ga,gc,mb,m,rfl,h2.keep (below_keep b3),h6,h5⟩
  obtain ⟨fl,hfe⟩:∃ fl,fl=s.funcs.length:=⟨_,rfl⟩
  rw [← hfe] at HG HW HE1 r1 ⊢
  generalize s.consts.length=cl at HG ⊢
  clear hG hr r2 r3 i1 i2 i3 i4 n0 n1 hsf hfe b1
  go_enter Tryz.func82,Tryz.ntmps82
  go_wp2_with (first
   | (go_at_call 53;refine HG.out.mono ?_;clear HG;rintro e w1 ⟨ga,gc,rfl,K1⟩)
   | (go_at_call 115;refine (places_any ga fl gc (by omega) w1).mono ?_;rintro e w2 hP2;obtain rfl:=hP2.1;have K2:=hid7 hP2;clear hP2)
   | (go_at_call 114;refine (HW.out ga gc w1 w2 K1.out.1 K2.out).mono ?_;clear HW;rintro e w3 ⟨mb,m,r,rfl,h1,h2,h3,h4⟩;have K3:=hid7 (HE1.out ga gc mb m r w1 w2 w3 K1.out.2 K1.out.1 K2.out.2.2 h4 h1 h2);clear HE1 h1 h2 h3 h4)
   | fail)
  ·rename_i hr3
   go_ret3
   have:=K3.out
   rw [if_pos hr3] at this
   exact this
  ·rename_i hr3
   go_ret3
   have:=K3.out
   rw [if_neg (by rw [hr3];simp)] at this
   exact this
 ·have HG:Hid (Calls Tryz.prog 53 #[.agg #[.slice a0 s.consts.length c0,.slice a1 s.funcs.length c1]] (w.alloc (.cells #[.slice a0 s.consts.length c0,.slice a1 s.funcs.length c1] 27)) fun e w1=>e=.returned (.tuple #[.slice none 0 0,.int .i64 30])∧Hid (StrEnd s w (.returned (.tuple #[.slice none 0 0,.map none,.int .i64 30])) w1)):=hid7 (hG.mono fun e w1 ⟨h1,h2⟩=>by
   rw [if_neg hr] at h1
   refine ⟨h1,hid7 ⟨b1.trans (h2.mono b1.size),?_⟩⟩
   rw [if_neg hr])
  clear hG hr n0 n1 hsf b1
  generalize s.consts.length=cl at HG ⊢
  generalize s.funcs.length=fl at HG ⊢
  go_enter Tryz.func82,Tryz.ntmps82
  go_wp2_with (first
   | (go_at_call 53;refine HG.out.mono ?_;clear HG;rintro e w1 ⟨rfl,K1⟩)
   | fail)
  go_ret3
  exact K1.out
def deepL (s:Scr)(d:Nat→Nat):List Int:=(List.range s.funcs.length).map fun x=>(d x:Int)
def DeepEnd (s:Scr)(w:World)(e:Ending)(w':World):Prop :=
 Below w.heap.size w w'∧if s.right=true then (if (ordS s.funcs.length (gF s)).isNone=true then e=.returned (.tuple #[.slice none 0 0,.int .i64 34])
  else ∃ la lc d,e=.returned (.tuple #[.slice la s.funcs.length lc,.int .i64 0])∧NsAt w'.cell? la (deepL s d)∧DeepIs s.funcs.length (gF s) d∧∀ x<s.funcs.length,d x≤1000)
 else e=.returned (.tuple #[.slice none 0 0,.int .i64 30])
set_option maxRecDepth 100000 in
set_option maxHeartbeats 1000000 in
theorem deep_new (s:Scr)(V0 V1:Value)(w:World)(hs:ScIs w.cell? s V0 V1)(hsf:s.fits):Calls Tryz.prog 51 #[.agg #[V0,V1]] w fun e w'=>DeepEnd s w e w'∧FreshE w e:=by
 obtain ⟨⟨a0,c0,rfl,n0⟩,⟨a1,c1,rfl,n1⟩⟩:=hs
 have b1:=(Below.refl _ w).alloc (Nat.le_refl _) (.cells #[.slice a0 s.consts.length c0,.slice a1 s.funcs.length c1] 27)
 have hG:=straight_any s _ _ (w.alloc (.cells #[.slice a0 s.consts.length c0,.slice a1 s.funcs.length c1] 27)) ⟨⟨a0,c0,rfl,n0.keep (below_keep b1)⟩,⟨a1,c1,rfl,n1.keep (below_keep b1)⟩⟩ hsf
 by_cases hx:s.right=true∧¬ (ordS s.funcs.length (gF s)).isNone=true
 ·obtain ⟨hr,ho⟩:=hx
  obtain ⟨r1,r2,r3⟩:=right_calls hr
  obtain ⟨i1,i2,i3,i4⟩:=graph_inn s
  have HG:Hid (Calls Tryz.prog 82 #[.agg #[.slice a0 s.consts.length c0,.slice a1 s.funcs.length c1]] (w.alloc (.cells #[.slice a0 s.consts.length c0,.slice a1 s.funcs.length c1] 27)) fun e w1=>∃ ga gc mb m,e=.returned (.tuple #[.slice ga s.funcs.length gc,.map (some mb),.int .i64 0])∧Hid (Below w.heap.size w w1∧MapN w1 mb s.funcs.length (2*s.funcs.length) m∧DeepIs s.funcs.length (gF s) (fun x=>(m x).getD 0))):=hid7 (hG.mono fun e w1 ⟨h1,h2⟩=>by
   rw [if_pos hr,if_neg ho] at h2
   obtain ⟨ga,gc,mb,m,e1,h3,h4,h5⟩:=h2
   exact ⟨ga,gc,mb,m,e1,hid7 ⟨b1.trans (h1.mono b1.size),h4,wlk_deep i1 h5⟩⟩)
  have HEnd:Hid (∀ W lb (d:Nat→Nat),Below w.heap.size w W→DeepIs s.funcs.length (gF s) d→(∀ x<s.funcs.length,d x≤1000)→Fill W lb 3 s.funcs.length (fun j=>.int .i64 (d j:Nat))→DeepEnd s w (.returned (.tuple #[.slice (some ⟨lb,0,none⟩) s.funcs.length s.funcs.length,.int .i64 0])) W):=hid7 fun W lb d h1 h2 h3 h4=>by
   refine ⟨h1,?_⟩
   rw [if_pos hr,if_neg ho]
   refine ⟨_,_,d,rfl,.inr ⟨lb,0,rfl,fun j hj=>?_⟩,h2,h3⟩
   have hj2:j<s.funcs.length:=by simpa [deepL] using hj
   rw [Nat.zero_add,h4.cell hj2]
   simp [deepL]
  obtain ⟨fl,hfe⟩:∃ fl,fl=s.funcs.length:=⟨_,rfl⟩
  rw [← hfe] at HG HEnd r1 ⊢
  have HMk:Hid (∀ W:World,∃ W2,(Instr.makeSlice 28 (.int .i64 (fl:Int)) (.int .i64 (fl:Int))).run Tryz.prog W=.ok (.slice (some ⟨W.heap.size,0,none⟩) fl fl) W2∧Fill W2 W.heap.size 3 fl (fun _=>.int .i64 0)∧Below W.heap.size W W2):=hid7 fun W=>made8 W 28 3 (.int .i64 0) 8 fl Tryz.underlying28 (by kernel_rfl) rfl (by omega) (by omega)
  generalize s.consts.length=cl at HG ⊢
  clear hG hr ho r2 r3 i1 i2 i3 i4 n0 n1 hsf hfe b1
  go_enter Tryz.func51,Tryz.ntmps51
  go_wp2_with (first
   | (go_at_call 82;refine HG.out.mono ?_;clear HG;rintro e w1 ⟨ga,gc,mb,m,rfl,H1⟩;obtain ⟨w2,hm2,F2,b2⟩:=HMk.out w1;have hF2:=hid7 (And.intro F2 b2);clear HMk F2 b2)
   | fail)
  clear hm2
  go_loopw [23] (fun iv wr=>∃ k:Nat,iv=.int .i64 k∧k≤fl∧Hid (Fill wr w1.heap.size 3 fl (fun j=>.int .i64 (if j<k then ((m j).getD 0:Nat) else (0:Int)))∧Below w1.heap.size w1 wr)) (fun iv _=>fl - (intOf iv).toNat)
  case atStart=>exact ⟨0,rfl,Nat.zero_le _,hid7 ⟨hF2.out.1.congr fun j _=>by simp,hF2.out.2⟩⟩
  case round =>
   obtain ⟨k,rfl,hk,HL⟩:=hrel
   clear hF2
   by_cases hlt:k<fl
   ·have g1:=HL.out.1.cell hlt
    have g2:=HL.out.1.frozen k
    rw [if_neg (by omega)] at g1
    have hl:=(H1.out.2.1.keep (HL.out.2.block _ H1.out.2.1.lt)).at k (by omega)
    have L4:Hid (Fill (wr.setCell ⟨w1.heap.size,k,none⟩ (.int .i64 ((m k).getD 0:Nat))) w1.heap.size 3 fl (fun j=>.int .i64 (if j<k+1 then ((m j).getD 0:Nat) else (0:Int)))∧Below w1.heap.size w1 (wr.setCell ⟨w1.heap.size,k,none⟩ (.int .i64 ((m k).getD 0:Nat)))):=hid7 ⟨(HL.out.1.set k _).congr fun j _=>by
     by_cases e:j=k
     ·subst e;simp
     ·rw [if_neg e]
      by_cases e2:j<k
      ·rw [if_pos e2,if_pos (by omega)]
      ·rw [if_neg e2,if_neg (by omega)],HL.out.2.setCell (p:=⟨w1.heap.size,k,none⟩) (Nat.le_refl _) _⟩
    generalize (m k).getD 0=mk at hl L4
    clear HL H1 HEnd
    go_wp2_with fail
    exact ⟨⟨k+1,by go_num,by omega,L4⟩,by simp [intOf];omega⟩
   ·obtain rfl:k=fl:=by omega
    obtain ⟨q1,q2,q3⟩:=H1.out
    have HE:=hid7 (HEnd.out wr w1.heap.size (fun x=>(m x).getD 0) (q1.trans (HL.out.2.mono q1.size)) q3 (fun x _=>by
     obtain ⟨D,N,_,_,_,_,q4⟩:=q2
     cases e:m x with
     | none=>simp
     | some v=>have:=(q4 x v e).2.1;simp;omega) (HL.out.1.congr fun j hj=>by rw [if_pos hj]))
    have HFr:Hid (FreshE w (.returned (.tuple #[.slice (some ⟨w1.heap.size,0,none⟩) k k,.int .i64 0]))):=hid7 (fresh_at q1.size)
    clear HL H1 HEnd q1 q2 q3
    go_wp2_with fail
    go_ret2
    exact ⟨HE.out,HFr.out⟩
 ·have HG:Hid (Calls Tryz.prog 82 #[.agg #[.slice a0 s.consts.length c0,.slice a1 s.funcs.length c1]] (w.alloc (.cells #[.slice a0 s.consts.length c0,.slice a1 s.funcs.length c1] 27)) fun e w1=>∃ c:Int,(c != 0)=true∧e=.returned (.tuple #[.slice none 0 0,.map none,.int .i64 c])∧Hid (DeepEnd s w (.returned (.tuple #[.slice none 0 0,.int .i64 c])) w1)):=hid7 (hG.mono fun e w1 ⟨h1,h2⟩=>by
   have bb:=b1.trans (h1.mono b1.size)
   by_cases hr:s.right=true
   ·rw [if_pos hr] at h2
    have ho:(ordS s.funcs.length (gF s)).isNone=true:=by
     cases e:(ordS s.funcs.length (gF s)).isNone with
     | true=>rfl
     | false=>exact absurd ⟨hr,by rw [e];simp⟩ hx
    rw [if_pos ho] at h2
    exact ⟨34,by decide,h2,hid7 ⟨bb,by rw [if_pos hr,if_pos ho]⟩⟩
   ·rw [if_neg hr] at h2
    exact ⟨30,by decide,h2,hid7 ⟨bb,by rw [if_neg hr]⟩⟩)
  clear hG hx n0 n1 hsf b1
  generalize s.consts.length=cl at HG ⊢
  generalize s.funcs.length=fl at HG ⊢
  go_enter Tryz.func51,Tryz.ntmps51
  go_wp2_with (first
   | (go_at_call 82;refine HG.out.mono ?_;clear HG;rintro e w1 ⟨c,hc,rfl,K1⟩)
   | fail)
  go_ret2
  exact ⟨K1.out,fresh_nil _ _ _ _⟩
def idxI (p:Int→Bool)(zs:List Int):Int:=match zs.findIdx? p with | some i=>(i:Int) | none=>-1
theorem idxI_none {p:Int→Bool}{zs:List Int}(h:∀ j (hj:j<zs.length),p zs[j]=false):idxI p zs=-1:=by
 have:zs.findIdx? p=none:=by
  rw [List.findIdx?_eq_none_iff]
  intro x hx
  obtain ⟨j,hj,rfl⟩:=List.mem_iff_getElem.1 hx
  exact h j hj
 rw [idxI,this]
theorem idxI_some {p:Int→Bool}{zs:List Int}{k:Nat}(hk:k<zs.length)(h:∀ j (hj:j<zs.length),j<k→p zs[j]=false)(hp:p zs[k]=true):idxI p zs=k:=by
 have:zs.findIdx? p=some k:=by
  rw [List.findIdx?_eq_some_iff_getElem]
  exact ⟨hk,hp,fun j hj=>by rw [h j (by omega) hj];simp⟩
 rw [idxI,this]
def Tells (F:Nat)(fr:Array Value)(W:World)(zs:List Int)(p:Int→Bool):Prop:=∀ x ∈ zs,∀ q,Calls Tryz.prog F (#[.int .i64 x]++fr) (W.drewN q) fun e w'=>e=.returned (.bool (p x))∧∃ q',w'=W.drewN q'
set_option maxRecDepth 100000 in
set_option maxHeartbeats 1000000 in
theorem indexF_any (zs:List Int)(a:Option Addr)(n c:Nat)(hn:zs.length=n)(bn:n≤100000)(W:World)(F:Nat)(fr:Array Value)(eF:∀ args w,(callFunc F args).run Tryz.prog w=.ok (.enter F args) w)(p:Int→Bool)(hz:NsAt W.cell? a zs)(hF:Tells F fr W zs p) :
  Calls Tryz.prog 119 #[.slice a n c,.func (.func F) #[] fr] W fun e w'=>e=.returned (.int .i64 (idxI p zs))∧∃ q,w'=W.drewN q:=by
 have HN:=hid7 hn
 have HZ:=hid7 hz
 have HF:=hid7 hF
 clear hn hz hF
 go_enter Tryz.func119,Tryz.ntmps119
 go_wp2_with fail
 go_loopw [8] (fun iv wr=>∃ k q:Nat,iv=.int .i64 k∧k≤n∧wr=W.drewN q∧Hid (∀ j (hj:j<zs.length),j<k→p zs[j]=false)) (fun iv _=>n - (intOf iv).toNat)
 case atStart=>exact ⟨0,0,rfl,Nat.zero_le _,rfl,hid7 fun j _ h=>by omega⟩
 case round =>
  obtain ⟨k,q,rfl,hk,rfl,HP⟩:=hrel
  by_cases hlt:k<n
  ·have hkl:k<zs.length:=by rw [HN.out];exact hlt
   obtain ⟨zb,zo,e1,z1⟩:∃ zb zo,a=some ⟨zb,zo,none⟩∧(W.drewN q).cell? ⟨zb,zo+k,none⟩=some (.int .i64 zs[k]):=by
    rcases HZ.out with h | ⟨b,o,e,h⟩
    ·rw [h] at hkl;cases hkl
    ·exact ⟨b,o,e,h k hkl⟩
   subst e1
   have HC:=hid7 (HF.out zs[k] (List.getElem_mem hkl) q)
   cases hp:p zs[k] with
   | true =>
    have HE:=hid7 (idxI_some hkl HP.out hp)
    rw [hp] at HC
    generalize zs[k]=z at *
    clear HP HF HZ hp
    go_wp2_with (first | (go_at_fn F;refine HC.out.mono ?_;clear HC;rintro e w4 ⟨rfl,q4,w4e⟩;rw [w4e];clear w4e) | fail)
    go_ret
    exact ⟨by rw [HE.out];rfl,q4,rfl⟩
   | false =>
    have HP2:Hid (∀ j (hj:j<zs.length),j<k+1→p zs[j]=false):=hid7 fun j hj hjk=>by
     by_cases e:j=k
     ·subst e;exact hp
     ·exact HP.out j hj (by omega)
    rw [hp] at HC
    generalize zs[k]=z at *
    clear HP HF HZ hp
    go_wp2_with (first | (go_at_fn F;refine HC.out.mono ?_;clear HC;rintro e w4 ⟨rfl,q4,w4e⟩;rw [w4e];clear w4e) | fail)
    exact ⟨⟨k+1,q4,by go_num,by omega,rfl,HP2⟩,by simp [intOf];omega⟩
  ·obtain rfl:k=n:=by omega
   have HE:Hid (idxI p zs=-1):=hid7 (idxI_none fun j hj=>HP.out j hj (by rw [← HN.out];exact hj))
   clear HP HF HZ
   go_wp2_with fail
   go_ret
   exact ⟨by rw [HE.out];rfl,q,rfl⟩
theorem idxI_nonneg (p:Int→Bool)(zs:List Int):decide (0≤idxI p zs)=zs.any p:=by
 unfold idxI
 cases e:zs.findIdx? p with
 | none =>
  rw [List.findIdx?_eq_none_iff] at e
  have:zs.any p=false:=by rw [List.any_eq_false];intro x hx;rw [e x hx];simp
  rw [this];rfl
 | some i =>
  rw [List.findIdx?_eq_some_iff_getElem] at e
  obtain ⟨h,h1,_⟩:=e
  have:zs.any p=true:=List.any_eq_true.2 ⟨_,List.getElem_mem h,h1⟩
  rw [this];simp
set_option maxRecDepth 100000 in
set_option maxHeartbeats 1000000 in
theorem containsF_any (zs:List Int)(a:Option Addr)(n c:Nat)(hn:zs.length=n)(bn:n≤100000)(W:World)(F:Nat)(fr:Array Value)(eF:∀ args w,(callFunc F args).run Tryz.prog w=.ok (.enter F args) w)(p:Int→Bool)(hz:NsAt W.cell? a zs)(hF:Tells F fr W zs p) :
  Calls Tryz.prog 118 #[.slice a n c,.func (.func F) #[] fr] W fun e w'=>e=.returned (.bool (zs.any p))∧∃ q,w'=W.drewN q:=by
 have HI:=hid7 (indexF_any zs a n c hn bn W F fr eF p hz hF)
 have e6:∀ args w,(callFunc 119 args).run Tryz.prog w=.ok (.enter 119 args) w:=enters_of Tryz.func119 (by kernel_rfl) rfl
 rw [← idxI_nonneg]
 generalize idxI p zs=i at HI ⊢
 clear hn hz hF
 go_enter Tryz.func118,Tryz.ntmps118
 go_wp2_with (first | (go_at_fn 119;refine HI.out.mono ?_;clear HI;rintro e w' ⟨rfl,q,rfl⟩) | fail)
 go_ret
 exact ⟨rfl,q,rfl⟩
set_option maxRecDepth 100000 in
set_option maxHeartbeats 1000000 in
theorem waits_any (pt mb n S:Nat)(m:Nat→Option Nat)(f:Nat)(hf:f≤100000)(w:World)(ct:w.cell? ⟨pt,0,none⟩=some (.map (some mb)))(hm:MapN w mb n S m) :
  Calls Tryz.prog 116 #[.int .i64 (f:Nat),.pointer (some ⟨pt,0,none⟩)] w fun e w'=>e=.returned (.bool (((m f).getD 0:Nat) == 0))∧∃ q,w'=w.drewN q:=by
 have hl:=hm.at f hf
 generalize (m f).getD 0=v at hl ⊢
 go_enter Tryz.func116,Tryz.ntmps116
 go_wp2_with fail
 go_ret
 refine ⟨?_,0,rfl⟩
 show Ending.returned (.bool (((v:Nat):Int) == 0))=_
 congr 2
 rw [Bool.eq_iff_iff]
 simp
set_option maxRecDepth 100000 in
set_option maxHeartbeats 1000000 in
theorem ready_any (B pg pt pw mb n gc S:Nat)(ga:Option Addr)(G:List (List Nat))(hG:G.length=n)(hI:Inn n (gOf G))(hr:∀ l ∈ G,l.length≤1000)(hn:n≤1000)(m:Nat→Option Nat)(f:Nat)(hf:f<n)(w:World)(cg:w.cell? ⟨pg,0,none⟩=some (.slice ga n gc))(ct:w.cell? ⟨pt,0,none⟩=some (.map (some mb)))
  (cw:w.cell? ⟨pw,0,none⟩=some (.func (.func 116) #[] #[.pointer (some ⟨pt,0,none⟩)])) (hg:RsAt (lowC B w) ga (rowsI G)) (hm:MapN w mb n S m) :
  Calls Tryz.prog 117 #[.int .i64 (f:Nat),.pointer (some ⟨pg,0,none⟩),.pointer (some ⟨pw,0,none⟩)] w fun e w'=>e=.returned (.bool ((gOf G f).all fun c=>!((m c).getD 0 == 0)))∧∃ q,w'=w.drewN q:=by
 obtain ⟨gb,go,aj,cj,ega,hgb,hrow,hns⟩:=row_at hg (by rw [hG];exact hf)
 have hl:(gOf G f).length≤1000:=by
  unfold gOf
  rw [List.getD_eq_getElem?_getD,List.getElem?_eq_getElem (by rw [hG];exact hf)]
  exact hr _ (List.getElem_mem _)
 have eW:∀ args w,(callFunc 116 args).run Tryz.prog w=.ok (.enter 116 args) w:=enters_of Tryz.func116 (by kernel_rfl) rfl
 have hdd:∀ k',w.drew.drewN k'=w.drewN (1+k'):=fun k'=>by rw [← World.drewN_drewN];rfl
 have HC:Hid (Calls Tryz.prog 118 #[.slice aj (gOf G f).length cj,.func (.func 116) #[] #[.pointer (some ⟨pt,0,none⟩)]] w.drew fun e w'=>e=.returned (.bool ((rowI (gOf G f)).any fun x=>((m x.toNat).getD 0:Nat) == 0))∧∃ q,w'=w.drewN q):=hid7 ((containsF_any (rowI (gOf G f)) aj (gOf G f).length cj (by simp [rowI]) (by omega) w.drew 116 #[.pointer (some ⟨pt,0,none⟩)] eW (fun x=>((m x.toNat).getD 0:Nat) == 0) (hns.keep fun x v hx=>(lowC_of hx).2) (fun x hx q=>by
  obtain ⟨c,hc,rfl⟩:=List.mem_map.1 hx
  have:=waits_any pt mb n S m c (by have:=hI f hf c hc;omega) (w.drew.drewN q) ct hm
  refine this.mono fun e w' ⟨h1,q',h2⟩=>⟨h1,q+q',by rw [h2,World.drewN_drewN]⟩)).mono fun e w' ⟨h1,q,h2⟩=>⟨h1,_,h2.trans (hdd q)⟩)
 have he:(rowI (gOf G f)).any (fun x=>((m x.toNat).getD 0:Nat) == 0)=!(gOf G f).all fun c=>!((m c).getD 0 == 0):=by
  rw [rowI,List.any_map,List.not_all_eq_any_not]
  congr 1
  funext c
  simp
 rw [he] at HC
 generalize (gOf G f).all (fun c=>!((m c).getD 0 == 0))=r at HC ⊢
 generalize (gOf G f).length=gl at HC hrow
 subst ega
 clear hns hg hm hr hI hG he ct hdd
 go_enter Tryz.func117,Tryz.ntmps117
 go_wp2_with fail
 go_region_with (first | (go_at_call 118;refine HC.out.mono ?_;clear HC;rintro e w' ⟨rfl,q,w4e⟩;rw [w4e];clear w4e) | fail)
 all_goals
  go_wp2
  go_ret
  exact ⟨by cases r <;> rfl,q,rfl⟩
end Go.Proofs.YtpmlnkjamhelnaaGreat
namespace Go.Proofs.YtpmlnkjamhelnaaGreat
open Go.RowKit Go.Sort
def leftL (n:Nat)(out:List Nat):List Nat:=(List.range n).filter fun f=>!out.contains f
theorem pick_left (n:Nat)(g:Nat→List Nat)(out:List Nat):pick n g out=(leftL n out).find? fun f=>(g f).all out.contains:=by
 rw [pick,leftL,List.find?_filter]
 congr 1
 funext f
 rw [rdy,Bool.eq_iff_iff]
 simp
theorem filter_ne:∀ {l:List Nat}(i:Nat)(_:l.Nodup)(hi:i<l.length),(l.filter fun x=>x != l[i])=l.take i++l.drop (i+1)
 | a :: l,0,hn,_=>by
  rw [List.nodup_cons] at hn
  simp only [List.getElem_cons_zero,List.take_zero,List.nil_append,List.drop_succ_cons,List.drop_zero]
  rw [List.filter_cons_of_neg (by simp),List.filter_eq_self]
  intro x hx
  simp only [bne_iff_ne]
  intro e;subst e;exact hn.1 hx
 | a :: l,i+1,hn,hi=>by
  rw [List.nodup_cons] at hn
  have hi2:i<l.length:=by simpa using hi
  simp only [List.getElem_cons_succ,List.take_succ_cons,List.cons_append,List.drop_succ_cons]
  rw [List.filter_cons_of_pos (by simp only [bne_iff_ne];intro e;exact hn.1 (e ▸ List.getElem_mem hi2)),filter_ne i hn.2 hi2]
theorem left_nodup (n:Nat)(out:List Nat):(leftL n out).Nodup:=List.Pairwise.filter _ List.nodup_range
theorem left_snoc {n:Nat}{out:List Nat}{i:Nat}(hi:i<(leftL n out).length):leftL n (out++[(leftL n out)[i]])=(leftL n out).take i++(leftL n out).drop (i+1):=by
 rw [← filter_ne i (left_nodup n out) hi]
 generalize (leftL n out)[i]=f
 unfold leftL
 rw [List.filter_filter]
 congr 1
 funext x
 rw [Bool.eq_iff_iff]
 simp [and_comm]
theorem left_zero (n:Nat):leftL n []=List.range n:=by simp [leftL]
theorem left_len {n:Nat}{g:Nat→List Nat}{out:List Nat}(h:Told n g out)(hl:out.length≤n):(leftL n out=[]→out.length=n)∧(leftL n out≠[]→out.length<n):=by
 constructor
 ·intro e
  have:=nodup_le (a:=List.range n) (b:=out) List.nodup_range fun x hx=>by
   false_or_by_contra
   rename_i hn
   have:x ∈ leftL n out:=List.mem_filter.2 ⟨hx,by simp [hn]⟩
   rw [e] at this
   cases this
  simp at this
  omega
 ·intro e
  rcases Nat.lt_or_ge out.length n with h1 | h1
  ·exact h1
  ·exfalso
   refine e (List.eq_nil_iff_forall_not_mem.2 fun x hx=>?_)
   obtain ⟨h2,h3⟩:=List.mem_filter.1 hx
   have:=told_all h (by omega) (by simpa using h2)
   simp [this] at h3
theorem line_step {n:Nat}{g:Nat→List Nat}(hI:Inn n g)(ha:Acy n g){out:List Nat}(ho:ordN n g out.length=some out)(hne:leftL n out≠[])(hle:out.length≤n) :
  ∃ i,∃ hi:i<(leftL n out).length,(leftL n out)[i]<n∧idxI (fun x=>(g x.toNat).all out.contains) (rowI (leftL n out))=i∧ordN n g (out++[(leftL n out)[i]]).length=some (out++[(leftL n out)[i]])∧out.length<n:=by
 have hlt:=(left_len (ord_told ho).2 hle).2 hne
 obtain ⟨f,hf⟩:=acy_pick hI ha (l:=out) hlt
 have hf2:=hf
 rw [pick_left] at hf2
 obtain ⟨i,hi,e,hb,hc⟩:∃ i,∃ hi:i<(leftL n out).length,(leftL n out)[i]=f∧(g (leftL n out)[i]).all out.contains=true∧∀ j (hj:j<(leftL n out).length),j<i→(g (leftL n out)[j]).all out.contains=false:=by
  rw [List.find?_eq_some_iff_getElem] at hf2
  obtain ⟨h1,i,hi,e,h2⟩:=hf2
  exact ⟨i,hi,e,by rw [e];exact h1,fun j hj hji=>by have:=h2 j hji;simpa using this⟩
 refine ⟨i,hi,?_,?_,?_,hlt⟩
 ·rw [e];exact (pick_some hf).1
 ·refine idxI_some (by simpa [rowI] using hi) (fun j hj hji=>?_) ?_
  ·have:=hc j (by simpa [rowI] using hj) hji
   simpa [rowI] using this
  ·simpa [rowI] using hb
 ·rw [e,List.length_append,List.length_singleton,ordN,ho]
  simp [hf]
def slen:Value→Nat | .slice _ k _=>k | _=>0
theorem MapN.more {w:World}{b n S S':Nat}{m:Nat→Option Nat}(h:MapN w b n S m)(h1:S≤S')(h2:S'≤100000):MapN w b n S' m:=by
 obtain ⟨D,N,q1,q2,q3,q4,q5⟩:=h
 exact ⟨D,N,q1,by omega,h2,q4,fun k v hk=>by obtain ⟨e1,e2,e3⟩:=q5 k v hk;exact ⟨e1,by omega,e3⟩⟩
structure LineSt (w:World)(s n gc B:Nat)(ga:Option Addr)(G:List (List Nat))(out:List Nat)(lv:Value)(W:World):Prop where
 cg:W.cell? ⟨s,0,none⟩=some (.slice ga n gc)
 ct:W.cell? ⟨s+1+1,0,none⟩=some (.map (some (s+1)))
 cw:W.cell? ⟨s+1+1+1,0,none⟩=some (.func (.func 116) #[] #[.pointer (some ⟨s+1+1,0,none⟩)])
 gs:RsAt (lowC s W) ga (rowsI G)
 map:∃ m,MapN W (s+1) n 1000 m∧(∀ x,x ∉ out→m x=none)∧∀ x ∈ out,∃ v,m x=some v∧0<v
 lrow:W.ownsRow B 3 1 lv out.length (cellsN (rowI out))
 left:W.ownsRow s 3 1 (.slice (some ⟨s+1+1+1+1,0,none⟩) (leftL n out).length n) (leftL n out).length (cellsN (rowI (leftL n out)))
 bel:Below s w W
 big:B≤W.heap.size
 ord:ordN n (gOf G) out.length=some out
 len:out.length≤n
theorem LineSt.quiet {w W:World}{s n gc B:Nat}{ga:Option Addr}{G:List (List Nat)}{out:List Nat}{lv:Value}(h:LineSt w s n gc B ga G out lv W)(q:Nat):LineSt w s n gc B ga G out lv (W.drewN q) :=
 ⟨h.cg,h.ct,h.cw,h.gs,h.map,h.lrow,h.left,h.bel.trans ⟨rfl,rfl,rfl,Nat.le_refl _,fun _ _=>rfl⟩,h.big,h.ord,h.len⟩
theorem LineSt.start {w W1:World}{n gc:Nat}{ga:Option Addr}{G:List (List Nat)}(hn:n≤100)(hg:RsAt w.cell? ga (rowsI G))(W0:World)(hW0:W0=(((w.alloc (.cells #[.slice ga n gc] 58)).alloc (.map #[] 0)).alloc (.cells #[.map (some (w.heap.size+1))] 119)).alloc (.cells #[.func (.func 116) #[] #[.pointer (some ⟨w.heap.size+1+1,0,none⟩)]] 111))(e:Ending)(hP:PlacesEnd n W0 e W1) :
  LineSt w w.heap.size n gc W1.heap.size ga G [] (.slice none 0 0) W1∧W0.heap.size=w.heap.size+1+1+1+1∧w.heap.size+1+1+1+1+1≤W1.heap.size:=by
 obtain ⟨_,F1,P1⟩:=hP
 obtain ⟨w1,e1⟩:∃ w1,w1=w.alloc (.cells #[.slice ga n gc] 58):=⟨_,rfl⟩
 obtain ⟨w2,e2⟩:∃ w2,w2=w1.alloc (.map #[] 0):=⟨_,rfl⟩
 obtain ⟨w3,e3⟩:∃ w3,w3=w2.alloc (.cells #[.map (some (w.heap.size+1))] 119):=⟨_,rfl⟩
 have e4:W0=w3.alloc (.cells #[.func (.func 116) #[] #[.pointer (some ⟨w.heap.size+1+1,0,none⟩)]] 111):=by rw [hW0,e3,e2,e1]
 clear hW0
 have z1:w1.heap.size=w.heap.size+1:=by rw [e1];simp
 have z2:w2.heap.size=w.heap.size+1+1:=by rw [e2];simp [z1]
 have z3:w3.heap.size=w.heap.size+1+1+1:=by rw [e3];simp [z2]
 have z4:W0.heap.size=w.heap.size+1+1+1+1:=by rw [e4];simp [z3]
 have b1:Below w.heap.size w w1:=by rw [e1];exact (Below.refl _ w).alloc (Nat.le_refl _) _
 have b2:Below w1.heap.size w1 w2:=by rw [e2];exact (Below.refl _ w1).alloc (Nat.le_refl _) _
 have b3:Below w2.heap.size w2 w3:=by rw [e3];exact (Below.refl _ w2).alloc (Nat.le_refl _) _
 have b4:Below w3.heap.size w3 W0:=by rw [e4];exact (Below.refl _ w3).alloc (Nat.le_refl _) _
 have c1:w1.heap[w.heap.size]?=some (.cells #[.slice ga n gc] 58 (0,0)):=by rw [e1];exact heap_alloc_new w _
 have c3:w3.heap[w.heap.size+1+1]?=some (.cells #[.map (some (w.heap.size+1))] 119 (0,0)):=by rw [e3,← z2];exact heap_alloc_new w2 _
 have c4:W0.heap[w.heap.size+1+1+1]?=some (.cells #[.func (.func 116) #[] #[.pointer (some ⟨w.heap.size+1+1,0,none⟩)]] 111 (0,0)):=by rw [e4,← z3];exact heap_alloc_new w3 _
 have M:MapN w2 (w.heap.size+1) n (2*n) (fun _=>none):=by rw [e2,← z1];exact MapN.new w1 n hn
 have k1:Below w1.heap.size w1 W1:=b2.trans ((b3.mono (by omega)).trans ((b4.mono (by omega)).trans (P1.mono (by omega))))
 have k2:Below w2.heap.size w2 W1:=b3.trans ((b4.mono (by omega)).trans (P1.mono (by omega)))
 have k3:Below w3.heap.size w3 W1:=b4.trans (P1.mono (by omega))
 have kk:Below w.heap.size w W1:=b1.trans (k1.mono (by omega))
 have hF:=F1.lt
 rw [z4] at hF
 refine ⟨⟨?_,?_,?_,hg.low kk,⟨_,(M.keep (k2.block _ (by omega))).more (by omega) (by omega),fun _ _=>rfl,fun x hx=>by cases hx⟩,World.ownsRow_nil _ _ _ _,?_,kk,Nat.le_refl _,rfl,Nat.zero_le _⟩,z4,by omega⟩
 ·exact Lib.cell_of_heap ((k1.block _ (by omega)).trans c1) 0
 ·exact Lib.cell_of_heap ((k3.block _ (by omega)).trans c3) 0
 ·exact Lib.cell_of_heap ((P1.block _ (by omega)).trans c4) 0
 ·rw [left_zero,List.length_range,← z4]
  obtain ⟨cur,q1,q2,q3⟩:=F1
  refine ⟨by simp [cellsN,rowI],.inr ⟨W0.heap.size,n,cur,rfl,by omega,q1,Nat.le_refl _,by unfold maxLen;omega,by omega,?_⟩⟩
  apply List.ext_getElem?
  intro j
  by_cases hj:j<n
  ·rw [List.getElem?_take_of_lt (by omega),Array.getElem?_toList,q3 j hj]
   simp [cellsN,rowI,hj]
  ·rw [List.getElem?_eq_none (by simp;omega),List.getElem?_eq_none (by simp [cellsN,rowI];omega)]
theorem line_mid {w w4 w6:World}{s n gc B ol lk i f:Nat}{ga:Option Addr}{G:List (List Nat)}{out:List Nat}{lv v6:Value}(h:LineSt w s n gc B ga G out lv w4)(hB:s+1+1+1+1+1≤B)(hs6:Step (w4.alloc (.cells #[.int .i64 (f:Int)] 3)) lv w6 v6)(hr6:w6.ownsRow B 3 1 v6 (ol+1) (cellsN (rowI out)++[.int .i64 (f:Int)]))
  (hol:ol=out.length) (hn:n≤100) (holt:ol<n) (hfn:f<n) (hord:ordN n (gOf G) (out++[f]).length=some (out++[f])) (hsn:leftL n (out++[f])=(leftL n out).take i++(leftL n out).drop (i+1)) (hfl:f ∉ out) (hlk:lk=(leftL n out).length) (hi:i<(leftL n out).length) (hc:w4.cell? ⟨s+1+1+1+1,i,none⟩=some (.int .i64 (f:Nat))) :
  ∃ w7,(Instr.mapUpdate 119 (.map (some (s+1))) (.int .i64 (f:Int)) (.int .i64 ((ol:Int)+1))).run Tryz.prog w6.drew=.ok () w7∧w6.cell? ⟨s+1+1,0,none⟩=some (.map (some (s+1)))∧w6.cell? ⟨s+1+1+1+1,i,none⟩=some (.int .i64 (f:Nat)) ∧
   Calls Tryz.prog 120 #[.slice (some ⟨s+1+1+1+1,0,none⟩) lk n,.int .i64 (i:Nat),.int .i64 ((i:Int)+1)] w7 fun e w8=>e=.returned (.slice (some ⟨s+1+1+1+1,0,none⟩) (lk - 1) n)∧LineSt w s n gc B ga G (out++[f]) v6 w8∧lk - 1=(leftL n (out++[f])).length:=by
 have hz:=h.big
 have bA:Below w4.heap.size w4 (w4.alloc (.cells #[.int .i64 (f:Int)] 3)):=(Below.refl _ _).alloc (Nat.le_refl _) _
 have b6:Below B w4 w6:=(bA.mono hz).trans (hs6.below (B:=B) (by simp;omega) (fun g e=>(h.lrow.lt g e).1))
 have hl6:w6.ownsRow s 3 1 (.slice (some ⟨s+1+1+1+1,0,none⟩) (leftL n out).length n) (leftL n out).length (cellsN (rowI (leftL n out))):=row_blk h.left fun g _ _ e=>by
  simp only [Value.ownBlock] at e
  cases e
  exact b6.block _ (by omega)
 obtain ⟨m,M1,M2,M3⟩:=h.map
 have M6:MapN w6.drew (s+1) n 1000 m:=M1.keep (b6.block _ (by omega))
 obtain ⟨w7,hu,M7,K7,z7⟩:=M6.put f (ol+1) hfn (by omega) 1000 (by have:=white_max (mput m f (ol+1)) n;omega) (by omega) (.inr ⟨M2 f hfl,by omega⟩)
 have z6:w6.heap.size≤w7.heap.size:=by rw [z7];exact Nat.le_refl _
 have k7:∀ g,g<w6.heap.size→g≠s+1→w7.heap[g]?=w6.heap[g]?:=fun g hg hne=>K7.block g hg (by simp;exact hne)
 have hz6:B≤w6.heap.size:=Nat.le_trans hz b6.size
 have hl7:w7.ownsRow s 3 1 (.slice (some ⟨s+1+1+1+1,0,none⟩) (leftL n out).length n) (leftL n out).length (cellsN (rowI (leftL n out))):=row_blk hl6 fun g _ hg e=>by
  simp only [Value.ownBlock] at e
  cases e
  exact k7 _ hg (by omega)
 have hr7:w7.ownsRow B 3 1 v6 (ol+1) (cellsN (rowI out)++[.int .i64 (f:Int)]):=row_blk hr6 fun g hb hg _=>k7 g hg (by omega)
 refine ⟨w7,hu,(b6.cell (by show s+1+1<B;omega)).trans h.ct,(b6.cell (by show s+1+1+1+1<B;omega)).trans hc,?_⟩
 obtain ⟨g',cap',e1,_,hlt,hcap,_,hzl,hH⟩:=Lib.holds_of_ownsRow (enc:=Value.int .i64) (zs:=rowI (leftL n out)) hl7 (by simp)
 injection e1 with e2 _ e3
 injection e2 with e2
 injection e2 with e2
 subst e2;subst e3
 have hD:=Tryz.slices_Delete_int (s+1+1+1+1) 0 n i (i+1) (rowI (leftL n out)) w7 hH (by omega) (by omega) (by omega) (by omega)
 rw [hzl,← hlk] at hD
 refine hD.mono fun e w8 ⟨h1,q,h2⟩=>?_
 have hlen:(leftL n (out++[f])).length=lk - 1:=by rw [hsn,List.length_append,List.length_take,List.length_drop,hlk];omega
 refine ⟨by rw [h1,show lk - (i+1 - i)=lk - 1 by omega],?_,hlen.symm⟩
 have g8:w7.grownBy w8 (some (s+1+1+1+1)):=by
  rw [h2]
  refine ⟨rfl,rfl,rfl,by simp [putRow,mapBlock,Sort.ahead],fun k hk hne=>?_⟩
  have:s+1+1+1+1≠k:=fun e=>hne (by rw [e])
  simp [putRow,mapBlock,Sort.ahead,Array.getElem?_modify,this]
 have k8:∀ g,g<w6.heap.size→g≠s+1→g≠s+1+1+1+1→w8.heap[g]?=w6.heap[g]?:=fun g hg h1 h2=>(g8.block g (by omega) (by simp;exact h2)).trans (k7 g hg h1)
 have c8:∀ {a:Addr} {v:Value},w4.cell? a=some v→a.block<B→a.block≠s+1→a.block≠s+1+1+1+1→w8.cell? a=some v:=fun hv hb n1 n2=>(World.cell?_of_block ((k8 _ (by omega) n1 n2).trans (b6.block _ hb))).trans hv
 have low8:∀ x v,lowC s w4 x=some v→lowC s w8 x=some v:=fun x v hx=>by
  obtain ⟨q1,q2⟩:=lowC_of hx
  exact lowC_mk q1 (c8 q2 (by omega) (by omega) (by omega))
 have bel8:Below s w6 w8:=⟨g8.os.trans K7.os,g8.tape.trans K7.tape,g8.output.trans K7.output,Nat.le_trans z6 g8.size,fun k hk=>k8 k (by omega) (by omega) (by omega)⟩
 refine ⟨c8 h.cg (by show s<B;omega) (by show s≠s+1;omega) (by show s≠s+1+1+1+1;omega),c8 h.ct (by show s+1+1<B;omega) (by show s+1+1≠s+1;omega) (by show s+1+1≠s+1+1+1+1;omega),c8 h.cw (by show s+1+1+1<B;omega) (by show s+1+1+1≠s+1;omega) (by show s+1+1+1≠s+1+1+1+1;omega),h.gs.keep low8,?_,?_,?_,(h.bel.trans (b6.mono (by omega))).trans bel8,by have:=bel8.size;omega,hord,by rw [List.length_append,List.length_singleton,← hol];omega⟩
 ·refine ⟨_,M7.keep (g8.block _ M7.lt (by simp)),fun x hx=>?_,fun x hx=>?_⟩
  ·rw [List.mem_append,not_or] at hx
   rw [mput_other _ _ (fun e=>hx.2 (by rw [e];simp))]
   exact M2 x hx.1
  ·by_cases e:x=f
   ·subst e;exact ⟨_,mput_same _ _ _,by omega⟩
   ·rw [mput_other _ _ e]
    refine M3 x ?_
    rcases List.mem_append.1 hx with q | q
    ·exact q
    ·exact absurd (List.mem_singleton.1 q) e
 ·rw [List.length_append,List.length_singleton,← hol,show cellsN (rowI (out++[f]))=cellsN (rowI out)++[.int .i64 (f:Int)] by simp [cellsN,rowI]]
  exact row_blk hr7 fun g hb hg _=>g8.block g hg (by simp;omega)
 ·rw [hlen,h2]
  have:=Lib.ownsRow_putRow (enc:=Value.int .i64) (q:=q) (k:=lk - 1) (ys:=(rowI (leftL n out)).take i++(rowI (leftL n out)).drop (i+1)++List.replicate (i+1 - i) 0) (zs:=rowI (leftL n out)) hl7 (by simp [rowI];omega) (by omega)
  have e8:((rowI (leftL n out)).take i++(rowI (leftL n out)).drop (i+1)++List.replicate (i+1 - i) 0).take (lk - 1)=rowI (leftL n (out++[f])):=by
   rw [hsn,List.take_left' (by simp [rowI];omega)]
   simp [rowI,List.map_take,List.map_drop]
  rw [e8] at this
  exact this
set_option maxRecDepth 100000 in
set_option maxHeartbeats 1000000 in
theorem line_any (G:List (List Nat))(n gc:Nat)(ga:Option Addr)(hG:G.length=n)(hn:n≤100)(hI:Inn n (gOf G))(hr:∀ l ∈ G,l.length≤1000)(ha:Acy n (gOf G))(w:World)(hg:RsAt w.cell? ga (rowsI G)) :
  Calls Tryz.prog 83 #[.slice ga n gc] w fun e w'=>∃ o,ordS n (gOf G)=some o∧RowE (rowI o) w e w':=by
 have hmk:∀ W:World,(Instr.makeMap 119 none).run Tryz.prog W=.ok (.map (some W.heap.size)) (W.alloc (.map #[] 0)):=fun W=>by kernel_rfl
 have hsf:∀ (W:World) (a:Addr) (q:Go.Fn) (x y:Array Value),(store a (.func q x y)).run Tryz.prog W=stored Tryz.prog W a (.func q x y) _:=fun W a q x y=>run_store Tryz.prog W a _ _ rfl
 have hP:Hid (Calls Tryz.prog 115 #[.slice ga n gc] ((((w.alloc (.cells #[.slice ga n gc] 58)).alloc (.map #[] 0)).alloc (.cells #[.map (some (w.heap.size+1))] 119)).alloc (.cells #[.func (.func 116) #[] #[.pointer (some ⟨w.heap.size+1+1,0,none⟩)]] 111)) fun e w2=>e=.returned (.slice (some ⟨w.heap.size+1+1+1+1,0,none⟩) n n)∧Hid (LineSt w w.heap.size n gc w2.heap.size ga G [] (.slice none 0 0) w2∧w.heap.size+1+1+1+1+1≤w2.heap.size)):=hid7 ((places_any ga n gc (by omega) _).mono fun e w2 h=>by
  obtain ⟨h1,h2,h3⟩:=LineSt.start hn hg _ rfl e h
  refine ⟨?_,hid7 ⟨h1,h3⟩⟩
  rw [h.1,h2])
 have HG:=hid7 (And.intro hG (And.intro hI (And.intro hr ha)))
 obtain ⟨s,hs⟩:∃ s,s=w.heap.size:=⟨_,rfl⟩
 clear hg hG hI hr ha
 go_enter Tryz.func83,Tryz.ntmps83
 go_wp2_with (first | (go_at_call 115;refine hP.out.mono ?_;clear hP;rintro e w2 ⟨rfl,K2⟩) | fail)
 rw [← hs] at K2 ⊢
 clear hmk hsf
 have HS:=hid7 hs
 clear hs
 go_loopw [3,7] (fun lv lf wr=>∃ out:List Nat,lf=.slice (some ⟨s+1+1+1+1,0,none⟩) (leftL n out).length n∧Hid (LineSt w s n gc w2.heap.size ga G out lv wr)) (fun _ lf _=>slen lf)
 case atStart=>exact ⟨[],by rw [left_zero,List.length_range],K2.out.1⟩
 case round =>
  obtain ⟨out,rfl,HL⟩:=hrel
  obtain ⟨ra,rc,eav,hrc,_⟩:=row_form HL.out.lrow
  subst eav
  obtain ⟨hG,hI,hr,ha⟩:=HG.out
  have hB5:=K2.out.2
  by_cases hne:leftL n out=[]
  ·have hle:(leftL n out).length=0:=by rw [hne];rfl
   have ho:=(left_len (ord_told HL.out.ord).2 HL.out.len).1 hne
   have HE:Hid (∃ o,ordS n (gOf G)=some o∧RowE (rowI o) w (.returned (.slice ra out.length rc)) wr):=hid7 ⟨out,by have:=HL.out.ord;rw [ho] at this;exact this,ra,rc,by simp [rowI],by
    have:=row_base HL.out.lrow (base':=w.heap.size) (by rw [← HS.out];omega)
    simpa [rowI] using this,by rw [← HS.out];exact HL.out.bel⟩
   rw [hle]
   generalize out.length=ol at *
   clear HL K2 HG hne hle hG hI hr ha
   go_wp2_with fail
   go_ret
   exact HE.out
  ·obtain ⟨i,hi,hfn,hix,hord,holt⟩:=line_step hI ha HL.out.ord hne HL.out.len
   have hsn:=left_snoc hi
   have hfl:(leftL n out)[i] ∉ out:=fun h=>by
    have:=(List.mem_filter.1 (List.getElem_mem hi)).2
    simp [h] at this
   obtain ⟨f,hf⟩:∃ f,f=(leftL n out)[i]:=⟨_,rfl⟩
   rw [← hf] at hfn hord hsn hfl
   obtain ⟨lk,hlk⟩:∃ lk,lk=(leftL n out).length:=⟨_,rfl⟩
   have hlkp:0<lk:=by omega
   have hik:i<lk:=by omega
   have hkn:lk≤n:=by
    rw [hlk]
    unfold leftL
    exact Nat.le_trans (List.length_filter_le _ _) (by simp)
   obtain ⟨ol,hol⟩:∃ ol,ol=out.length:=⟨_,rfl⟩
   have eR:∀ args w,(callFunc 117 args).run Tryz.prog w=.ok (.enter 117 args) w:=enters_of Tryz.func117 (by kernel_rfl) rfl
   have hleft:∀ W,LineSt w s n gc w2.heap.size ga G out (.slice ra ol rc) W→NsAt W.cell? (some ⟨s+1+1+1+1,0,none⟩) (rowI (leftL n out))∧W.cell? ⟨s+1+1+1+1,i,none⟩=some (.int .i64 (f:Nat)):=fun W h=>by
    have:NsAt W.cell? (some ⟨s+1+1+1+1,0,none⟩) (rowI (leftL n out)):=by
     obtain ⟨a',c',e',_,_,q⟩:=row_form h.left
     cases e'
     rcases q with ⟨q,_⟩ | ⟨g,e,_,_,q⟩
     ·cases q
     ·cases e
      refine .inr ⟨_,0,rfl,fun j hj=>?_⟩
      rw [Nat.zero_add]
      exact q j _ (by simp only [cellsN,List.getElem?_map,List.getElem?_eq_getElem hj];rfl)
    refine ⟨this,?_⟩
    rcases this with q | ⟨b,o,e,q⟩
    ·rw [rowI,List.map_eq_nil_iff] at q;exact absurd q hne
    ·cases e
     have:=q i (by simpa [rowI] using hi)
     rw [Nat.zero_add] at this
     rw [this,hf]
     simp [rowI]
   have HI:Hid (Calls Tryz.prog 119 #[.slice (some ⟨s+1+1+1+1,0,none⟩) lk n,.func (.func 117) #[] #[.pointer (some ⟨s,0,none⟩),.pointer (some ⟨s+1+1+1,0,none⟩)]] wr fun e w4=>e=.returned (.int .i64 (i:Nat))∧w4.cell? ⟨s+1+1+1+1,i,none⟩=some (.int .i64 (f:Nat))∧Hid (LineSt w s n gc w2.heap.size ga G out (.slice ra ol rc) w4)):=hid7 (by
    rw [← hol] at HL
    obtain ⟨m,M1,M2,M3⟩:=HL.out.map
    have:=indexF_any (rowI (leftL n out)) (some ⟨s+1+1+1+1,0,none⟩) lk n (by rw [hlk];simp [rowI]) (by omega) wr 117 #[.pointer (some ⟨s,0,none⟩),.pointer (some ⟨s+1+1+1,0,none⟩)] eR (fun x=>(gOf G x.toNat).all out.contains) (hleft wr HL.out).1 (fun x hx q=>by
     obtain ⟨c,hc,rfl⟩:=List.mem_map.1 hx
     have hcn:c<n:=by simpa using (List.mem_filter.1 hc).1
     have h4:=HL.out.quiet q
     have:=ready_any s s (s+1+1) (s+1+1+1) (s+1) n gc 1000 ga G hG hI hr (by omega) m c hcn (wr.drewN q) h4.cg h4.ct h4.cw h4.gs M1
     have he:((gOf G c).all fun c=>!((m c).getD 0 == 0))=(gOf G (Int.ofNat c).toNat).all out.contains:=by
      show _=(gOf G c).all out.contains
      congr 1
      funext y
      by_cases hy:y ∈ out
      ·obtain ⟨v,q1,q2⟩:=M3 y hy
       rw [q1,List.contains_iff_mem.2 hy]
       simp;omega
      ·rw [M2 y hy]
       simp [hy]
     rw [he] at this
     refine this.mono fun e w' ⟨h1,q',h2⟩=>⟨h1,q+q',by rw [h2,World.drewN_drewN]⟩)
    refine this.mono fun e w' ⟨h1,q,h2⟩=>?_
    have h4:=HL.out.quiet q
    rw [← h2] at h4
    exact ⟨by rw [h1,hix],(hleft w' h4).2,hid7 h4⟩)
   have HA:Hid (∀ w4,LineSt w s n gc w2.heap.size ga G out (.slice ra ol rc) w4→(w4.alloc (.cells #[.int .i64 (f:Int)] 3)).ownsRow w2.heap.size 3 1 (.slice ra ol rc) ol (cellsN (rowI out))∧w2.heap.size≤w4.heap.size):=hid7 fun w4 h=>⟨by have:=h.lrow.alloc (.cells #[.int .i64 (f:Int)] 3);rw [← hol] at this;exact this,h.big⟩
   have hol2:ol≤100:=by omega
   rw [← hlk]
   rw [← hol]
   have HX:=hid7 (And.intro hne (And.intro hfn (And.intro hix (And.intro hord (And.intro hsn (And.intro hfl (And.intro hlk (And.intro hol hi))))))))
   clear hne hfn hix hord hsn hfl hf hlk hleft HL hG hI hr ha hi
   rw [← hol] at holt hrc
   clear hol
   go_wp2_with (first
    | (go_at_call 119;refine HI.out.mono ?_;clear HI;rintro e w4 ⟨rfl,g4,L4⟩;obtain ⟨A4,s4⟩:=HA.out w4 L4.out;have R4:=hid7 A4;clear A4)
    | (at_builtin;refine wpList_appN _ rfl _ _ 28 rfl elemN_int w2.heap.size _ ol (cellsN (rowI out)) rfl R4.out _ rfl 1 [.int .i64 (f:Int)] (.inr ⟨⟨_,0,none⟩,1,rfl,cells_new8 _ [.int .i64 (f:Int)] 3 _ rfl⟩) rfl (by simp [Value.oneCell']) (by unfold maxLen;omega) (by omega) (by simp;omega) ?_;intro v' w6 hr6 hs6;obtain ⟨va6,vc6,e6,_,_⟩:=row_form hr6;subst e6)
    | fail)
   have hs7:Step (w4.alloc (.cells #[.int .i64 (f:Int)] 3)) (.slice ra ol rc) w6 (.slice va6 (ol+1) vc6):=hs6
   obtain ⟨x1,x2,x3,x4,x5,x6,x7,x8,x9⟩:=HX.out
   obtain ⟨w7,hu7,ct7,cl7,hD7⟩:=line_mid L4.out hB5 hs7 hr6 x8 hn holt x2 x4 x5 x6 x7 x9 g4
   have HD:Hid (Calls Tryz.prog 120 #[.slice (some ⟨s+1+1+1+1,0,none⟩) lk n,.int .i64 (i:Nat),.int .i64 ((i:Int)+1)] w7 fun e w8=>e=.returned (.slice (some ⟨s+1+1+1+1,0,none⟩) (lk - 1) n)∧Hid (LineSt w s n gc w2.heap.size ga G (out++[f]) (.slice va6 (ol+1) vc6) w8∧lk - 1=(leftL n (out++[f])).length)):=hid7 (hD7.mono fun e w8 ⟨h1,h2,h3⟩=>⟨h1,hid7 ⟨h2,h3⟩⟩)
   clear hs6 hs7 hr6 hD7 x1 x2 x3 x4 x5 x6 x7 x8 x9 HX L4 HA R4 g4 HG K2 HS
   go_region
   all_goals
    go_wp2_with (first | (go_at_call 120;refine HD.out.mono ?_;clear HD;rintro e w8 ⟨rfl,K8⟩) | fail)
    exact ⟨⟨out++[f],by rw [← K8.out.2],hid7 K8.out.1⟩,by simp only [slen];show lk - 1<lk;omega⟩
end Go.Proofs.YtpmlnkjamhelnaaGreat
namespace Go.Proofs.YtpmlnkjamhelnaaGreat
open Go.RowKit
def OrdEnd (s:Scr)(w:World)(e:Ending)(w':World):Prop :=
 Below w.heap.size w w'∧if s.right=true then (match ordS s.funcs.length (gF s) with
  | none=>e=.returned (.tuple #[.slice none 0 0,.int .i64 34])
  | some o=>∃ la lc,e=.returned (.tuple #[.slice la o.length lc,.int .i64 0])∧NsAt w'.cell? la (rowI o))
 else e=.returned (.tuple #[.slice none 0 0,.int .i64 30])
theorem rowE_ns {o:List Int}{w w':World}{a:Option Addr}{c:Nat}(h:w'.ownsRow w.heap.size 3 1 (.slice a o.length c) o.length (cellsN o)):NsAt w'.cell? a o:=by
 obtain ⟨a',c',e,_,_,q⟩:=row_form h
 cases e
 rcases q with ⟨_,q,_⟩ | ⟨g,e,_,_,q⟩
 ·exact .inl (List.length_eq_zero_iff.1 q)
 ·exact .inr ⟨g,0,e,fun j hj=>by rw [Nat.zero_add];exact q j _ (by simp [cellsN,hj])⟩
set_option maxRecDepth 100000 in
set_option maxHeartbeats 1000000 in
theorem order_new (s:Scr)(V0 V1:Value)(w:World)(hs:ScIs w.cell? s V0 V1)(hsf:s.fits):Calls Tryz.prog 47 #[.agg #[V0,V1]] w fun e w'=>OrdEnd s w e w'∧FreshE w e:=by
 obtain ⟨⟨a0,c0,rfl,n0⟩,⟨a1,c1,rfl,n1⟩⟩:=hs
 have b1:=(Below.refl _ w).alloc (Nat.le_refl _) (.cells #[.slice a0 s.consts.length c0,.slice a1 s.funcs.length c1] 27)
 have hG:=straight_any s _ _ (w.alloc (.cells #[.slice a0 s.consts.length c0,.slice a1 s.funcs.length c1] 27)) ⟨⟨a0,c0,rfl,n0.keep (below_keep b1)⟩,⟨a1,c1,rfl,n1.keep (below_keep b1)⟩⟩ hsf
 by_cases hx:s.right=true∧¬ (ordS s.funcs.length (gF s)).isNone=true
 ·obtain ⟨hr,ho⟩:=hx
  obtain ⟨r1,r2,r3⟩:=right_calls hr
  obtain ⟨i1,i2,i3,i4⟩:=graph_inn s
  have hac:Acy s.funcs.length (gF s):=(ord_iff i1).2 (by
   cases e:ordS s.funcs.length (gF s) with
   | none=>rw [e] at ho;exact absurd rfl ho
   | some o=>exact ⟨o,rfl⟩)
  have HG:Hid (Calls Tryz.prog 82 #[.agg #[.slice a0 s.consts.length c0,.slice a1 s.funcs.length c1]] (w.alloc (.cells #[.slice a0 s.consts.length c0,.slice a1 s.funcs.length c1] 27)) fun e w1=>∃ ga gc mb,e=.returned (.tuple #[.slice ga s.funcs.length gc,.map (some mb),.int .i64 0])∧Hid (Calls Tryz.prog 83 #[.slice ga s.funcs.length gc] w1 fun e w2=>∃ a n c,e=.returned (.slice a n c)∧Hid (OrdEnd s w (.returned (.tuple #[.slice a n c,.int .i64 0])) w2∧FreshE w (.returned (.tuple #[.slice a n c,.int .i64 0]))))):=hid7 (hG.mono fun e w1 ⟨h1,h2⟩=>by
   rw [if_pos hr,if_neg ho] at h2
   obtain ⟨ga,gc,mb,m,e1,h3,h4,h5⟩:=h2
   refine ⟨ga,gc,mb,e1,hid7 ((line_any (graphS s) _ gc ga i4 (by omega) i1 (fun l hl=>by have:=i3 l hl;omega) hac w1 h3).mono fun e w2 ⟨o,q1,a,c,q2,q3,q4⟩=>⟨a,_,c,q2,hid7 ⟨⟨(b1.trans (h1.mono b1.size)).trans (q4.mono (Nat.le_trans b1.size h1.size)),?_⟩,fresh_row q3 (Nat.le_trans b1.size h1.size)⟩⟩)⟩
   rw [if_pos hr,show ordS s.funcs.length (gF s)=some o from q1]
   exact ⟨a,c,by simp [rowI],rowE_ns q3⟩)
  generalize s.consts.length=cl at HG ⊢
  generalize s.funcs.length=fl at HG ⊢
  clear hG hr ho r1 r2 r3 i1 i2 i3 i4 n0 n1 hsf b1 hac
  go_enter Tryz.func47,Tryz.ntmps47
  go_wp2_with (first
   | (go_at_call 82;refine HG.out.mono ?_;clear HG;rintro e w1 ⟨ga,gc,mb,rfl,HLn⟩)
   | (go_at_call 83;refine HLn.out.mono ?_;clear HLn;rintro e w2 ⟨a2,n2,c2,rfl,K2⟩)
   | fail)
  go_ret2
  exact K2.out
 ·have HG:Hid (Calls Tryz.prog 82 #[.agg #[.slice a0 s.consts.length c0,.slice a1 s.funcs.length c1]] (w.alloc (.cells #[.slice a0 s.consts.length c0,.slice a1 s.funcs.length c1] 27)) fun e w1=>∃ c:Int,(c != 0)=true∧e=.returned (.tuple #[.slice none 0 0,.map none,.int .i64 c])∧Hid (OrdEnd s w (.returned (.tuple #[.slice none 0 0,.int .i64 c])) w1)):=hid7 (hG.mono fun e w1 ⟨h1,h2⟩=>by
   have bb:=b1.trans (h1.mono b1.size)
   by_cases hr:s.right=true
   ·rw [if_pos hr] at h2
    have ho:(ordS s.funcs.length (gF s)).isNone=true:=by
     cases e:(ordS s.funcs.length (gF s)).isNone with
     | true=>rfl
     | false=>exact absurd ⟨hr,by rw [e];simp⟩ hx
    rw [if_pos ho] at h2
    refine ⟨34,by decide,h2,hid7 ⟨bb,?_⟩⟩
    rw [if_pos hr]
    cases e:ordS s.funcs.length (gF s) with
    | none=>rfl
    | some o=>rw [e] at ho;cases ho
   ·rw [if_neg hr] at h2
    exact ⟨30,by decide,h2,hid7 ⟨bb,by rw [if_neg hr]⟩⟩)
  clear hG hx n0 n1 hsf b1
  generalize s.consts.length=cl at HG ⊢
  generalize s.funcs.length=fl at HG ⊢
  go_enter Tryz.func47,Tryz.ntmps47
  go_wp2_with (first
   | (go_at_call 82;refine HG.out.mono ?_;clear HG;rintro e w1 ⟨c,hc,rfl,K1⟩)
   | fail)
  go_ret2
  exact ⟨K1.out,fresh_nil _ _ _ _⟩
theorem order_any (s:Scr)(V0 V1:Value)(w:World)(hs:ScIs w.cell? s V0 V1)(hsf:s.fits):Calls Tryz.prog 47 #[.agg #[V0,V1]] w (OrdEnd s w):=(order_new s V0 V1 w hs hsf).mono fun _ _ h=>h.1
end Go.Proofs.YtpmlnkjamhelnaaGreat
