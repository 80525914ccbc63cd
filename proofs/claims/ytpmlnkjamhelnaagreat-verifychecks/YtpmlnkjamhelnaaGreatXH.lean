/- Layer 8: which functions a function's instructions call. Layer 8: calls.callees. -/
import Derived.Test.YtpmlnkjamhelnaaGreatXA
import Derived.Test.YtpmlnkjamhelnaaGreatShelfs
import Derived.Sort.OwnSortedInts
import Derived.Lib.OwnBridge
namespace Go.Proofs.YtpmlnkjamhelnaaGreat
open Go.RowKit Go.Sort
def callL (cs:List (Int × Int)):List Int:=(cs.filter fun x=>x.1 == 53).map Prod.snd
def calleesS (cs:List (Int × Int)):List Int:=Lib.compact ((callL cs).mergeSort fun x y=>decide (x≤y))
theorem callL_take {cs:List (Int × Int)}{k:Nat}(h:k<cs.length):callL (cs.take (k+1))=callL (cs.take k)++if cs[k].1 == 53 then [cs[k].2] else []:=by
 unfold callL
 rw [List.take_succ_eq_append_getElem h,List.filter_append,List.map_append]
 congr 1
 by_cases e:cs[k].1 == 53
 ·simp [e]
 ·simp [e]
theorem callL_len (cs:List (Int × Int)):(callL cs).length≤cs.length:=by unfold callL;rw [List.length_map];exact List.length_filter_le _ _
theorem compact_up (d:Array Int)(hd:∀ i j,i<j→j<d.size→d[i]!≤d[j]!):∀ m,m≤d.size→(Lib.compactUpTo d m).Pairwise (·<·)∧(∀ x ∈ Lib.compactUpTo d m,0<m∧x≤d[m - 1]!)∧∀ x,x ∈ Lib.compactUpTo d m ↔ ∃ j<m,d[j]! = x
 | 0,_=>by simp [Lib.compactUpTo]
 | m+1,hm=>by
  obtain ⟨h1,h2,h3⟩:=compact_up d hd m (by omega)
  rw [Lib.compactUpTo_succ]
  have le:∀ x ∈ Lib.compactUpTo d m,x≤d[m]! := fun x hx=>by
   obtain ⟨h4,h5⟩:=h2 x hx
   have:=hd (m - 1) m (by omega) (by omega)
   omega
  by_cases hk:Lib.keeps d m
  ·rw [if_pos hk]
   refine ⟨List.pairwise_append.2 ⟨h1,by simp,fun x hx y hy=>?_⟩,fun x hx=>⟨by omega,?_⟩,fun x=>?_⟩
   ·rw [List.mem_singleton.1 hy]
    obtain ⟨h4,h5⟩:=h2 x hx
    have h6:=hd (m - 1) m (by omega) (by omega)
    simp only [Lib.keeps,decide_eq_true_eq] at hk
    rcases hk with hk | hk
    ·omega
    ·omega
   ·show x≤d[m]!
    rcases List.mem_append.1 hx with e | e
    ·exact le x e
    ·rw [List.mem_singleton.1 e];exact Int.le_refl _
   ·rw [List.mem_append,h3,List.mem_singleton]
    constructor
    ·rintro (⟨j,hj,e⟩ | e)
     ·exact ⟨j,by omega,e⟩
     ·exact ⟨m,by omega,e.symm⟩
    ·rintro ⟨j,hj,e⟩
     by_cases ej:j=m
     ·subst ej;exact .inr e.symm
     ·exact .inl ⟨j,by omega,e⟩
  ·rw [if_neg hk,List.append_nil]
   have hk2:0<m∧d[m]! = d[m - 1]! := by
    simp only [Lib.keeps,decide_eq_true_eq,not_or,Decidable.not_not] at hk
    exact ⟨by omega,hk.2⟩
   refine ⟨h1,fun x hx=>⟨by omega,le x hx⟩,fun x=>?_⟩
   rw [h3]
   constructor
   ·rintro ⟨j,hj,e⟩;exact ⟨j,by omega,e⟩
   ·rintro ⟨j,hj,e⟩
    by_cases ej:j=m
    ·subst ej;exact ⟨j - 1,by omega,by rw [← e,hk2.2]⟩
    ·exact ⟨j,by omega,e⟩
theorem callees_rise (cs:List (Int × Int)):(calleesS cs).Pairwise (·<·)∧∀ x,x ∈ calleesS cs ↔ x ∈ callL cs:=by
 obtain ⟨zs,hz⟩:∃ zs,zs=(callL cs).mergeSort fun x y=>decide (x≤y):=⟨_,rfl⟩
 have hs:zs.Pairwise (fun a b=>decide (a≤b)=true):=by
  rw [hz]
  exact List.pairwise_mergeSort (fun a b c h1 h2=>by simp at *;omega) (fun a b=>by simp;omega) _
 have hm:∀ x,x ∈ zs ↔ x ∈ callL cs:=fun x=>by rw [hz];exact List.mem_mergeSort
 have:=compact_up zs.toArray (fun i j hij hj=>by
  have hj2:j<zs.length:=by simpa using hj
  have:=List.pairwise_iff_getElem.1 hs i j (by omega) hj2 hij
  simpa [getElem!_pos,hj2,show i<zs.length by omega] using this) zs.length (by simp)
 unfold calleesS
 rw [← hz]
 refine ⟨this.1,fun x=>?_⟩
 rw [← hm,Lib.compact,this.2.2,List.mem_iff_getElem]
 constructor
 ·rintro ⟨j,hj,e⟩;exact ⟨j,hj,by rw [← e];simp [hj]⟩
 ·rintro ⟨j,hj,e⟩;exact ⟨j,hj,by rw [← e];simp [hj]⟩
def gRow (n:Nat)(cs:List (Int × Int)):List Nat:=(List.range n).filter fun g=>callsS cs (g:Int)
theorem callsS_iff (cs:List (Int × Int))(x:Int):callsS cs x=true ↔ x ∈ callL cs:=by
 unfold callsS callsN callL
 rw [List.take_length,List.any_eq_true,List.mem_map]
 constructor
 ·rintro ⟨y,hy,h⟩
  simp only [Bool.and_eq_true,beq_iff_eq] at h
  exact ⟨y,List.mem_filter.2 ⟨hy,by simp [h.1]⟩,h.2⟩
 ·rintro ⟨y,hy,h⟩
  obtain ⟨h1,h2⟩:=List.mem_filter.1 hy
  exact ⟨y,h1,by simp at h2;simp [h2,h]⟩
theorem range_rise (n:Nat):(List.range n).Pairwise (·<·):=List.pairwise_lt_range
theorem gRow_rise (n:Nat)(cs:List (Int × Int)):((gRow n cs).map Int.ofNat).Pairwise (·<·):=by
 rw [List.pairwise_map]
 exact (List.Pairwise.filter _ (range_rise n)).imp fun h=>Int.ofNat_lt.2 h
theorem callees_row {n:Nat}{cs:List (Int × Int)}(h:∀ x ∈ cs,x.1=53→0≤x.2∧x.2<n):calleesS cs=(gRow n cs).map Int.ofNat:=by
 obtain ⟨h1,h2⟩:=callees_rise cs
 refine rise_eq h1 (gRow_rise n cs) fun x=>?_
 rw [h2,List.mem_map]
 constructor
 ·intro hx
  have hx2:=(callsS_iff cs x).2 hx
  obtain ⟨y,hy,e⟩:=List.mem_map.1 hx
  obtain ⟨hy1,hy2⟩:=List.mem_filter.1 hy
  obtain ⟨g1,g2⟩:=h y hy1 (by simpa using hy2)
  rw [e] at g1 g2
  refine ⟨x.toNat,List.mem_filter.2 ⟨List.mem_range.2 (by omega),?_⟩,by simp;omega⟩
  rw [show ((x.toNat:Nat):Int)=x by omega]
  exact hx2
 ·rintro ⟨g,hg,e⟩
  subst e
  exact (callsS_iff cs _).1 (List.mem_filter.1 hg).2
theorem cells_new8 (W:World)(xs:List Value)(t:TypeId)(B:Nat)(hB:W.heap.size=B):∀ j u,xs[j]?=some u→(W.alloc (.cells xs.toArray t)).cell? ((⟨B,0,none⟩:Addr).add j)=some u:=by
 subst hB
 intro j u hu
 rw [Addr.add_lit,Lib.cell_of_heap (heap_alloc_new W (.cells xs.toArray t))]
 simpa using hu
def RowE (ns:List Int)(w:World)(e:Ending)(w':World):Prop:=∃ a cc,e=.returned (.slice a ns.length cc)∧w'.ownsRow w.heap.size 3 1 (.slice a ns.length cc) ns.length (cellsN ns)∧Below w.heap.size w w'
theorem compact_le (zs:List Int):(Lib.compact zs).length≤zs.length:=by
 unfold Lib.compact Lib.compactUpTo
 rw [List.length_map]
 exact Nat.le_trans (List.length_filter_le _ _) (by simp)
theorem sort_own {w0 W:World}{zs:List Int}{v:Value}{k:Nat}(hk:zs.length=k)(hb:Below w0.heap.size w0 W)(h:W.ownsRow w0.heap.size 3 1 v k (cellsN zs))(hz:k≤1000000) :
  Calls Tryz.prog 122 #[v] W fun e w'=>e=.returned (.tuple #[])∧Hid (Below w0.heap.size w0 w'∧w'.ownsRow w0.heap.size 3 1 v k (cellsN (zs.mergeSort fun x y=>decide (x≤y)))):=by
 subst hk
 rcases h.2 with ⟨e0,e1⟩ | ⟨g,cap,cur,rfl,hbg,hg,hn,hm,hs,ht⟩
 ·subst e0
  have hz0:zs=[]:=by
   cases zs with
   | nil=>rfl
   | cons x l=>simp at e1
  subst hz0
  refine (Tryz.slices_Sort_int_none none 0 W).mono fun e w' h1=>?_
  obtain ⟨h1,h2⟩:=h1
  subst h2
  exact ⟨h1,hid7 ⟨hb,by simpa using h⟩⟩
 ·obtain ⟨g',cap',e1,_,hlt,_,_,_,hH⟩:=Lib.holds_of_ownsRow (enc:=Value.int .i64) (zs:=zs) h (by simp)
  injection e1 with e2 _ e3
  injection e2 with e2
  injection e2 with e2
  subst e2;subst e3
  refine (Tryz.slices_Sort_int g 0 cap zs W hH hlt (by omega)).mono fun e w' ⟨h1,n,os,h2⟩=>⟨h1,hid7 ?_⟩
  subst h2
  refine ⟨hb.grown (grownBy_sortedI _) hb.size (fun j ej=>by cases ej;exact hbg),?_⟩
  have:=ownsRow_sortedI (base:=w0.heap.size) (n:=n) (os:=os) (ts:=zs.mergeSort fun x y=>decide (x≤y)) (ss:=zs) (by simp) hbg hg hn hm hs
  exact this
theorem compact_own {w0 W:World}{zs:List Int}{v:Value}{k:Nat}(hk:zs.length=k)(hb:Below w0.heap.size w0 W)(h:W.ownsRow w0.heap.size 3 1 v k (cellsN zs))(hz:k≤1000000) :
  Calls Tryz.prog 123 #[v] W (RowE (Lib.compact zs) w0):=by
 subst hk
 rcases h.2 with ⟨e0,e1⟩ | ⟨g,cap,cur,rfl,hbg,hg,hn,hm,hs,ht⟩
 ·subst e0
  have hz0:zs=[]:=by
   cases zs with
   | nil=>rfl
   | cons x l=>simp at e1
  subst hz0
  refine (Tryz.slices_Compact_int_empty none 0 W).mono fun e w' ⟨h1,h2⟩=>?_
  subst h2
  exact ⟨none,0,h1,h,hb⟩
 ·obtain ⟨g',cap',e1,_,hlt,_,_,_,hH⟩:=Lib.holds_of_ownsRow (enc:=Value.int .i64) (zs:=zs) h (by simp)
  injection e1 with e2 _ e3
  injection e2 with e2
  injection e2 with e2
  subst e2;subst e3
  refine (Tryz.slices_Compact_int g 0 cap zs W hH (by omega) hn).mono fun e w' ⟨h1,q,h2⟩=>?_
  subst h2
  have hc:=compact_le zs
  refine ⟨_,cap,h1,?_,Lib.below_putRow hb hbg⟩
  have:=Lib.ownsRow_putRow (enc:=Value.int .i64) (q:=q) (k:=(Lib.compact zs).length) (ys:=Lib.compact zs++List.replicate (zs.length - (Lib.compact zs).length) 0) (zs:=zs) h (by simp;omega) hc
  rw [List.take_left'  rfl] at this
  exact this
set_option maxRecDepth 100000 in
set_option maxHeartbeats 1000000 in
theorem callees_any (cs:List (Int × Int))(ca:Option Addr)(N cc:Nat)(hN:cs.length=N)(bN:N≤100000)(w:World)(hc:IsAt w.cell? ca cs) :
  Calls Tryz.prog 85 #[.slice ca N cc] w (RowE (calleesS cs) w):=by
 have HN:=hid7 hN
 have HC:=hid7 hc
 clear hc hN
 go_enter Tryz.func85,Tryz.ntmps85
 go_wp2_with fail
 go_loopw [3,8] (fun lv iv wr=>∃ k:Nat,iv=.int .i64 k∧k≤N∧Hid (wr.ownsRow w.heap.size 3 1 lv (callL (cs.take k)).length (cellsN (callL (cs.take k)))∧Below w.heap.size w wr)) (fun _ iv _=>N - (intOf iv).toNat)
 case atStart=>exact ⟨0,rfl,Nat.zero_le _,hid7 ⟨World.ownsRow_nil _ _ _ _,Below.refl _ _⟩⟩
 case round =>
  obtain ⟨k,rfl,hk,HR⟩:=hrel
  obtain ⟨ra,rc,eav,hrc,_⟩:=row_form HR.out.1
  subst eav
  have hll:=callL_len (cs.take k)
  rw [List.length_take] at hll
  have hal:(callL (cs.take k)).length≤100000:=by have:=HN.out;omega
  by_cases hkN:k<N
  ·have hkl:k<cs.length:=by rw [HN.out];exact hkN
   have hT:=callL_take hkl
   obtain ⟨b3,o3,e3,x0,x1⟩:∃ b3 o3,ca=some ⟨b3,o3,none⟩∧wr.cell? ⟨b3,o3+k*2,none⟩=some (.int .i64 cs[k].1)∧wr.cell? ⟨b3,o3+k*2+1,none⟩=some (.int .i64 cs[k].2):=by
    rcases HC.out.keep (below_keep HR.out.2) with h0 | ⟨b,off,e,h⟩
    ·rw [h0] at hkl;cases hkl
    ·exact ⟨b,off,e,h k hkl⟩
   subst e3
   generalize cs[k]=x at *
   obtain ⟨n,A⟩:=x
   simp only at *
   have HT:=hid7 hT
   obtain ⟨al,hal2⟩:∃ al,al=(callL (cs.take k)).length:=⟨_,rfl⟩
   rw [← hal2] at hal hrc HR ⊢
   have HAL:=hid7 hal2
   clear hT hll hal2
   have hb1:=(Below.refl _ wr).alloc (Nat.le_refl _) (.cells #[.int .i64 n,.int .i64 A] 74)
   have s1:w.heap.size≤wr.heap.size:=HR.out.2.size
   have HR2:Hid ((wr.alloc (.cells #[.int .i64 n,.int .i64 A] 74)).ownsRow w.heap.size 3 1 (.slice ra al rc) al (cellsN (callL (cs.take k)))∧Below w.heap.size w (wr.alloc (.cells #[.int .i64 n,.int .i64 A] 74))):=hid7 ⟨HR.out.1.alloc _,HR.out.2.trans (hb1.mono s1)⟩
   clear hb1
   by_cases h53:n=53
   ·subst h53
    have HR3:Hid (((wr.alloc (.cells #[.int .i64 53,.int .i64 A] 74)).alloc (.cells #[.int .i64 A] 3)).ownsRow w.heap.size 3 1 (.slice ra al rc) al (cellsN (callL (cs.take k)))):=hid7 (HR2.out.1.alloc _)
    clear HR
    go_wp2_with (first
     | (at_builtin;refine wpList_appN _ rfl _ _ 28 rfl elemN_int w.heap.size _ al (cellsN (callL (cs.take k))) rfl HR3.out _ rfl 1 [.int .i64 A] (.inr ⟨⟨_,0,none⟩,1,rfl,cells_new8 _ [.int .i64 A] 3 _ (by simp)⟩) rfl (by simp [Value.oneCell']) (by unfold maxLen;omega) (by omega) (by simp;omega) ?_;intro v' w6 hr6 hs6)
     | fail)
    have b6:=hs6.below (B:=w.heap.size) (by simp;omega) (fun g e=>(HR3.out.lt g e).1)
    have b5:=HR2.out.2.alloc (by simp;omega) (.cells #[.int .i64 A] 3)
    have hT2:=HT.out
    simp at hT2
    refine ⟨⟨k+1,by go_num,by omega,hid7 ⟨?_,b5.trans b6⟩⟩,by simp [intOf];omega⟩
    rw [hT2,List.length_append,List.length_singleton,← HAL.out,show cellsN (callL (cs.take k)++[A])=cellsN (callL (cs.take k))++[.int .i64 A] by simp [cellsN]]
    exact hr6
   ·have t1:(n == 53)=false:=by simpa using h53
    have HT2:Hid (callL (cs.take (k+1))=callL (cs.take k)):=hid7 (by rw [HT.out,t1];simp)
    clear h53 HT HR
    go_wp2
    refine ⟨⟨k+1,by go_num,by omega,hid7 ?_⟩,by simp [intOf];omega⟩
    rw [HT2.out,← HAL.out]
    exact HR2.out
  ·obtain rfl:k=N:=by omega
   have hR:=HR.out
   rw [← HN.out,List.take_length] at hR hal
   rw [← HN.out,List.take_length]
   have hS:=sort_own (zs:=callL cs) rfl hR.2 hR.1 (by omega)
   have HCm:Hid (∀ W,Below w.heap.size w W→W.ownsRow w.heap.size 3 1 (.slice ra (callL cs).length rc) (callL cs).length (cellsN ((callL cs).mergeSort fun x y=>decide (x≤y)))→Calls Tryz.prog 123 #[.slice ra (callL cs).length rc] W (RowE (calleesS cs) w)):=hid7 fun W h1 h2=>compact_own (by simp) h1 h2 (by omega)
   have HS:=hid7 hS
   generalize (callL cs).length=al at *
   clear HC hR HR hS hll
   go_wp2_with (first
    | (go_at_call 122;refine HS.out.mono ?_;clear HS;rintro e w1 ⟨rfl,K1⟩)
    | (go_at_call 123;refine (HCm.out w1 K1.out.1 K1.out.2).mono ?_;clear HCm;rintro e w2 ⟨a2,c2,rfl,r2,b2⟩)
    | fail)
   go_ret
   exact ⟨a2,c2,rfl,r2,b2⟩
end Go.Proofs.YtpmlnkjamhelnaaGreat
