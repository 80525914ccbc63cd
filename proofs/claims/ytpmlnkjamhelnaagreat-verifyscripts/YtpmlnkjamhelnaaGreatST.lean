/- Where all lead, by the document and by the program; the blocks that the document finds open: plain facts. -/
import Derived.Test.YtpmlnkjamhelnaaGreatTL
import Derived.Test.YtpmlnkjamhelnaaGreatCB
import Derived.Test.YtpmlnkjamhelnaaGreatYE
namespace Go.Proofs.YtpmlnkjamhelnaaGreat
def lvS (L:List Blk):Int:=match firstIx L Blk.l L.length with | none=>-1 | some i=>(L[i]?.map Blk.s).getD 0
structure MI (op:Nat→Int)(n k:Nat)(ms:List Int):Prop where
 len:ms.length=n
 fit:Fit op n (fun _ e=>e<k) (fun j=>ms.getD j 0)
 lev:∀ j,j<k→op j=52→ms.getD j 0=lvS (stk op j)
 oth:∀ j,j<n→¬ Opn op j→op j≠49→op j≠50→(op j=52→k≤j)→ms.getD j 0=-1
theorem MI.next {op : Nat → Int} {n k : Nat} {ms : List Int} (N : Nest op n) (hk : k < n) (h : MI op n k ms) : MI op n (k + 1) (visS (op k) k (stk op k) ms) := by
  have hlen := h.len
  by_cases h3 : op k = 50
  · have C := N.ci k (by omega)
    rcases List.eq_nil_or_concat (stk op k) with hL | ⟨M, b0, hL⟩
    · have := N.nst k hk
      rw [hL] at this; simp [standN, h3] at this
    rw [List.concat_eq_append] at hL
    obtain ⟨i0, p1, p2, p3, p4, p5, p6, p7⟩ := C.blk M b0 [] hL
    have hC0 : Closed op n i0 b0.o k := by
      refine ⟨p3, ?_, p2, h3, ⟨_, _, hL, p1⟩, p6⟩
      have h1 : ¬ (op k = 48 ∨ op k = 51) := by omega
      have h2 : ¬ op k = 49 := by omega
      rw [p7, closeS_succ hk, if_neg h1, if_neg h2, if_pos h3, if_pos (by rfl)]
    have e2 : visS (op k) k (stk op k) ms = pairS ms i0 (oOf b0.o) k := by
      rw [hL, h3]
      simp only [visS, if_true, List.getLast?_append, List.getLast?_singleton, Option.some_or]
      rw [show b0.s.toNat = i0 by omega]
    have ho : ∀ x, oOf b0.o = some x → b0.o = x ∧ i0 < x ∧ x < k ∧ op x = 49 ∧ Top op x i0 := by
      intro x hx
      rcases p6 with p6 | ⟨y, a1, a2, a3, a4, a5, _⟩
      · rw [oOf, if_pos p6] at hx; cases hx
      · rw [oOf, if_neg (by omega)] at hx
        have : y = x := by have := Option.some.inj hx; omega
        subst this
        exact ⟨a1, a2, a3, a4, a5⟩
    rw [e2]
    have hg : ∀ j, j < n → (pairS ms i0 (oOf b0.o) k).getD j 0 = _ := fun j hj => pair_get (j := j) (by omega) (by omega) (fun x hx => by have := ho x hx; omega)
    have hol : ∀ j, j < n → j ≠ k → j ≠ i0 → (∀ x, oOf b0.o = some x → j ≠ x) → (pairS ms i0 (oOf b0.o) k).getD j 0 = ms.getD j 0 := by
      intro j hj a b c
      rw [hg j hj, if_neg a, if_neg b, if_neg (fun h => c j h.symm rfl)]
    refine ⟨?_, ?_, ?_, ?_⟩
    · cases oOf b0.o <;> simp [pairS, hlen]
    · intro s o e hC he hen
      have q1 := hC.end'
      have q2 := hC.lt
      by_cases hek : e = k
      · subst hek
        have := hC.top.uniq hC0.top
        subst this
        obtain ⟨rfl, _⟩ := hC.uniq hC0
        refine ⟨?_, ?_, fun x ex => ?_⟩
        · show (pairS ms s (oOf b0.o) e).getD e 0 = _
          rw [hg e hen, if_pos rfl]
        · show (pairS ms s (oOf b0.o) e).getD s 0 = _
          rw [hg s (by omega), if_neg (by omega), if_pos rfl]
          by_cases hm : b0.o = -1
          · rw [if_pos hm, oOf, if_pos hm]; rfl
          · rw [if_neg hm, oOf, if_neg hm]
            rcases p6 with p6 | ⟨y, p6, _⟩
            · omega
            · simp; omega
        · show (pairS ms s (oOf b0.o) e).getD x 0 = _
          have := hC.els' ex
          rw [hg x (by omega), if_neg (by omega), if_neg (by omega), if_pos (by rw [oOf, if_neg (by omega), ex]; simp)]
      · have hne : s ≠ i0 := by rintro rfl; exact hek (hC.uniq hC0).2
        obtain ⟨i1, i2, i3⟩ := h.fit s o e hC (by show e < k; have : e < k + 1 := he; omega) hen
        have hek' : e < k := by have : e < k + 1 := he; omega
        have q3 := hC.opn
        unfold Opn at q3 p3
        refine ⟨?_, ?_, fun x ex => ?_⟩
        · show (pairS ms i0 (oOf b0.o) k).getD e 0 = _
          rw [hol e hen hek (by rintro rfl; omega) (fun x hx => by have := ho x hx; rintro rfl; omega)]; exact i1
        · show (pairS ms i0 (oOf b0.o) k).getD s 0 = _
          rw [hol s (by omega) (by omega) hne (fun x hx => by have := ho x hx; rintro rfl; omega)]; exact i2
        · show (pairS ms i0 (oOf b0.o) k).getD x 0 = _
          obtain ⟨c1, c2, c3, c4⟩ := hC.els' ex
          rw [hol x (by omega) (by omega) (by rintro rfl; omega) (fun y hy => by
            obtain ⟨_, _, _, _, d5⟩ := ho y hy
            rintro rfl
            exact hne (c4.uniq d5))]
          exact i3 x ex
    · intro j hj e
      have hjk : j ≠ k := by rintro rfl; omega
      unfold Opn at p3
      rw [hol j (by omega) hjk (by rintro rfl; omega) (fun x hx => by have := ho x hx; rintro rfl; omega)]
      exact h.lev j (by omega) e
    · intro j hj a b c d
      rw [hol j hj (by rintro rfl; exact c h3) (by rintro rfl; exact a p3) (fun x hx => by have := ho x hx; rintro rfl; omega)]
      exact h.oth j hj a b c (fun e => by have := d e; omega)
  by_cases h4 : op k = 52
  · have e2 : (visS (op k) k (stk op k) ms).length = n ∧ ∀ j, j < n → (visS (op k) k (stk op k) ms).getD j 0 = if j = k then lvS (stk op k) else ms.getD j 0 := by
      have e : visS (op k) k (stk op k) ms = (match firstIx (stk op k) Blk.l (stk op k).length with | none => ms | some i => ms.set k (((stk op k)[i]?.map Blk.s).getD 0)) := by
        rw [h4]
        unfold visS
        rw [if_neg (by decide), if_pos rfl]
        cases firstIx (stk op k) Blk.l (stk op k).length <;> rfl
      rw [e, lvS]
      cases hf : firstIx (stk op k) Blk.l (stk op k).length with
      | none =>
        refine ⟨hlen, fun j hj => ?_⟩
        show ms.getD j 0 = if j = k then -1 else ms.getD j 0
        by_cases hjk : j = k
        · subst hjk
          rw [if_pos rfl]
          exact h.oth j hj (by unfold Opn; omega) (by omega) (by omega) (fun _ => Nat.le_refl _)
        · rw [if_neg hjk]
      | some i =>
        refine ⟨by simp [hlen], fun j hj => ?_⟩
        show (ms.set k _).getD j 0 = _
        rw [gset _ _ _ _ (by omega)]
        by_cases hjk : j = k
        · rw [if_pos hjk, if_pos hjk.symm]
        · rw [if_neg hjk, if_neg (fun h => hjk h.symm)]
    obtain ⟨g1, hg⟩ := e2
    refine ⟨g1, ?_, ?_, ?_⟩
    · intro s o e hC he hen
      have q1 := hC.end'
      have q2 := hC.lt
      have q3 := hC.opn
      unfold Opn at q3
      have hek : e ≠ k := by rintro rfl; omega
      obtain ⟨i1, i2, i3⟩ := h.fit s o e hC (by show e < k; have : e < k + 1 := he; omega) hen
      refine ⟨?_, ?_, fun x ex => ?_⟩
      · show (visS (op k) k (stk op k) ms).getD e 0 = _
        rw [hg e hen, if_neg hek]; exact i1
      · show (visS (op k) k (stk op k) ms).getD s 0 = _
        rw [hg s (by omega), if_neg (by rintro rfl; omega)]; exact i2
      · show (visS (op k) k (stk op k) ms).getD x 0 = _
        obtain ⟨c1, c2, c3, c4⟩ := hC.els' ex
        rw [hg x (by omega), if_neg (by rintro rfl; omega)]; exact i3 x ex
    · intro j hj e
      rw [hg j (by omega)]
      split
      · rename_i hjk; subst hjk; rfl
      · exact h.lev j (by omega) e
    · intro j hj a b c d
      have : j ≠ k := by rintro rfl; have := d h4; omega
      rw [hg j hj, if_neg this]
      exact h.oth j hj a b c (fun e => by have := d e; omega)
  · have e2 : visS (op k) k (stk op k) ms = ms := by simp only [visS, if_neg h3, if_neg h4]
    rw [e2]
    refine ⟨hlen, ?_, ?_, ?_⟩
    · intro s o e hC he hen
      have q1 := hC.end'
      have hek : e ≠ k := by rintro rfl; omega
      exact h.fit s o e hC (by show e < k; have : e < k + 1 := he; omega) hen
    · intro j hj e
      exact h.lev j (by have : j ≠ k := by rintro rfl; exact h4 e
                        omega) e
    · intro j hj a b c d
      exact h.oth j hj a b c (fun e => by have := d e; omega)
theorem mst_stk (cs:List (Int × Int)):∀ k,(mst cs k).1=stk (opA cs) k
 | 0=>rfl
 | k+1=>by rw [mst,stk,mst_stk cs k];rfl
theorem mi_all {cs:List (Int × Int)}(N:Nest (opA cs) cs.length):∀ k,k≤cs.length→MI (opA cs) cs.length k (mst cs k).2
 | 0,_=>⟨by simp [mst],fun s o e _ h=>by omega,fun j h=>by omega,fun j hj _ _ _ _=>by simp [mst,List.getD_eq_getElem?_getD,hj]⟩
 | k+1,hk=>by
  have:=(mi_all N k (by omega)).next N (by omega)
  rw [← mst_stk] at this
  exact this
structure GM (op:Nat→Int)(n:Nat)(m:Nat→Int):Prop where
 fit:Fit op n (fun _ _=>True) m
 lev:∀ j,j<n→op j=52→∃ s:Nat,s<j∧lvS (stk op j)=s∧op s=51∧m j=m s
 oth:∀ j,j<n→¬ Opn op j→op j≠49→op j≠50→op j≠52→m j=-1
theorem GM.uniq {op:Nat→Int}{n:Nat}{m m':Nat→Int}(N:Nest op n)(h:GM op n m)(h':GM op n m'):∀ j,j<n→m j=m' j:=by
 have hO:∀ j,j<n→Opn op j→m j=m' j:=fun j hj ho=>by
  obtain ⟨o,e,he,hC⟩:=N.opn hj ho
  rw [(h.fit _ _ _ hC trivial he).2.1,(h'.fit _ _ _ hC trivial he).2.1]
 intro j hj
 by_cases h1:Opn op j
 ·exact hO j hj h1
 by_cases h2:op j=49
 ·obtain ⟨s,e,he,hC⟩:=N.els hj h2
  rw [(h.fit _ _ _ hC trivial he).2.2 j rfl,(h'.fit _ _ _ hC trivial he).2.2 j rfl]
 by_cases h3:op j=50
 ·obtain ⟨s,o,hC⟩:=N.ends hj h3
  rw [(h.fit _ _ _ hC trivial hj).1,(h'.fit _ _ _ hC trivial hj).1]
 by_cases h4:op j=52
 ·obtain ⟨s,a1,a2,a3,a4⟩:=h.lev j hj h4
  obtain ⟨s',b1,b2,b3,b4⟩:=h'.lev j hj h4
  have:s=s':=by omega
  subst this
  rw [a4,b4,hO s (by omega) (.inr a3)]
 ·rw [h.oth j hj h1 h2 h3 h4,h'.oth j hj h1 h2 h3 h4]
theorem lvS_some {op:Nat→Int}{n j:Nat}(N:Nest op n)(hj:j≤n)(hs:(firstIx (stk op j) Blk.l (stk op j).length).isSome=true):∃ s:Nat,s<j∧lvS (stk op j)=s∧op s=51:=by
 obtain ⟨i,hi⟩:=Option.isSome_iff_exists.1 hs
 obtain ⟨_,b,hb,hbl⟩:=firstIx_lt hi
 obtain ⟨A,R,hA⟩:=List.append_of_mem (List.mem_of_getElem? hb)
 obtain ⟨s,p1,p2,p3,p4,_⟩:=(N.ci j hj).blk A b R hA
 refine ⟨s,p2,?_,?_⟩
 ·rw [lvS,hi];simp [hb,p1]
 ·rw [hbl] at p4;exact of_decide_eq_true p4.symm
theorem good_iff (cs:List (Int × Int)):goodS cs=true ↔ (∀ j,j<cs.length→standS (opA cs j) (stk (opA cs) j)=true)∧stk (opA cs) cs.length=[]:=by
 have key:∀ k,k≤cs.length→((∀ j,j<k→standS (opA cs j) (stk (opA cs) j)=true)→runS (opsI (cs.take k)) 0 []=some (stk (opA cs) k))∧(∀ L,runS (opsI (cs.take k)) 0 []=some L→L=stk (opA cs) k∧∀ j,j<k→standS (opA cs j) (stk (opA cs) j)=true):=by
  intro k
  induction k with
  | zero=>exact fun _=>⟨fun _=>by simp [opsI,runS,stk],fun L h=>⟨by simp [opsI,runS] at h;exact h,fun j h=>by omega⟩⟩
  | succ k ih =>
   intro hk
   obtain ⟨ih1,ih2⟩:=ih (by omega)
   have hop:opA cs k=cs[k].1:=ops_at (cs:=cs) (k:=k) (by omega)
   refine ⟨fun h=>?_,fun L h=>?_⟩
   ·have:=run_next (by omega) (ih1 fun j hj=>h j (by omega)) (by rw [← hop];exact h k (by omega))
    rw [this,stk,hop]
   ·obtain ⟨L0,r1,r2,r3⟩:=run_prev (by omega) h
    obtain ⟨rfl,r4⟩:=ih2 L0 r1
    refine ⟨by rw [r3,stk,hop],fun j hj=>?_⟩
    by_cases hjk:j=k
    ·subst hjk;rw [hop];exact r2
    ·exact r4 j (by omega)
 obtain ⟨k1,k2⟩:=key cs.length (Nat.le_refl _)
 rw [List.take_length] at k1 k2
 unfold goodS
 rw [decide_eq_true_iff]
 constructor
 ·intro h
  obtain ⟨a,b⟩:=k2 [] h
  exact ⟨b,a.symm⟩
 ·rintro ⟨a,b⟩
  rw [k1 a,b]
theorem standS_N {n:Int}{L:List Blk}(h:standS n L=true):standN n L=true:=by
 unfold standS at h
 unfold standN
 split
 ·rename_i h2
  rwa [if_neg (by omega),if_pos h2] at h
 ·rename_i h2
  split
  ·rename_i h3
   rwa [if_neg (by omega),if_neg h2,if_pos h3] at h
  ·rfl
theorem good_nest {cs:List (Int × Int)}(h:goodS cs=true):Nest (opA cs) cs.length:=by
 obtain ⟨a,b⟩:=(good_iff cs).1 h
 exact ⟨fun j hj=>standS_N (a j hj),b⟩
theorem match_gm {cs:List (Int × Int)}(h:goodS cs=true):GM (opA cs) cs.length (fun j=>(matchS cs).getD j 0):=by
 have N:=good_nest h
 have M:=mi_all N cs.length (Nat.le_refl _)
 have hst:=((good_iff cs).1 h).1
 have hlv:∀ j,j<cs.length→opA cs j=52→∃ s:Nat,s<j∧lvS (stk (opA cs) j)=s∧opA cs s=51:=by
  intro j hj e
  have hs:=hst j hj
  rw [e] at hs
  exact lvS_some N (by omega) (by simpa [standS] using hs)
 have hl:∀ j,j<cs.length→(matchS cs).getD j 0=if opA cs j=52 then (mst cs cs.length).2.getD ((mst cs cs.length).2.getD j 0).toNat 0 else (mst cs cs.length).2.getD j 0:=by
  intro j hj
  have:=lead_get (opsI cs) (mst cs cs.length).2 (by
   intro i hi h2
   have hil:i<cs.length:=by
    have:=(List.getElem?_eq_some_iff.1 hi).1
    rwa [opsI_len] at this
   rw [ops_some hil] at hi
   have h52:=Option.some.inj hi
   obtain ⟨s,a1,a2,a3⟩:=hlv i hil h52
   rw [M.lev i hil h52,a2,Int.toNat_natCast,ops_some (by omega)] at h2
   have:=Option.some.inj h2
   omega) (by rw [mst_len,opsI_len]) cs.length j (by rw [opsI_len];exact Nat.le_refl _)
  rw [ops_some hj] at this
  refine this.trans ?_
  by_cases h52:opA cs j=52
  ·rw [if_pos ⟨hj,by rw [h52]⟩,if_pos h52]
  ·rw [if_neg (fun h=>h52 (Option.some.inj h.2)),if_neg h52]
 refine ⟨?_,?_,?_⟩
 ·intro s o e hC _ he
  have q1:=hC.end'
  have q2:=hC.lt
  have q3:=hC.opn
  unfold Opn at q3
  obtain ⟨i1,i2,i3⟩:=M.fit s o e hC he he
  refine ⟨?_,?_,fun x ex=>?_⟩
  ·show (matchS cs).getD e 0=_
   rw [hl e he,if_neg (by omega)];exact i1
  ·show (matchS cs).getD s 0=_
   rw [hl s (by omega),if_neg (by omega)];exact i2
  ·show (matchS cs).getD x 0=_
   obtain ⟨c1,c2,c3,c4⟩:=hC.els' ex
   rw [hl x (by omega),if_neg (by omega)];exact i3 x ex
 ·intro j hj e
  obtain ⟨s,a1,a2,a3⟩:=hlv j hj e
  refine ⟨s,a1,a2,a3,?_⟩
  show (matchS cs).getD j 0=(matchS cs).getD s 0
  rw [hl j hj,if_pos e,M.lev j hj e,a2,Int.toNat_natCast,hl s (by omega),if_neg (by omega)]
 ·intro j hj a b c d
  show (matchS cs).getD j 0=-1
  rw [hl j hj,if_neg d]
  exact M.oth j hj a b c (fun e=>absurd e d)
def lastS (op:Nat→Int)(m:Nat→Int)(j:Nat):Int:=if op (m j).toNat=49 then m (m j).toNat else m j
theorem last_is {op:Nat→Int}{n s e:Nat}{o:Int}{m:Nat→Int}(hf:Fit op n (fun _ _=>True) m)(hC:Closed op n s o e)(he:e<n):lastS op m s=e:=by
 obtain ⟨i1,i2,i3⟩:=hf s o e hC trivial he
 unfold lastS
 rw [i2]
 by_cases ho:o=-1
 ·rw [if_pos ho,Int.toNat_natCast,if_neg (by rw [hC.end'];decide)]
 ·rw [if_neg ho]
  rcases hC.els with c | ⟨x,c1,c2,c3,c4,_⟩
  ·omega
  ·rw [c1,Int.toNat_natCast,if_pos c4,i3 x c1]
def openS (op:Nat→Int)(m:Nat→Int)(i:Nat):Nat→List Nat
 | 0=>[]
 | k+1=>if Opn op k∧(i:Int)≤lastS op m k then openS op m i k++[k] else openS op m i k
theorem open_any {op:Nat→Int}{n:Nat}{m:Nat→Int}(N:Nest op n)(hf:Fit op n (fun _ _=>True) m)(i:Nat):∀ k,k≤n→k≤i→(∀ j,j<k→Opn op j→∀ o e,Closed op n j o e→(i:Int)≤e→∃ b ∈ stk op k,b.s=j)∧(openS op m i k).map (fun (j:Nat)=>(j:Int))=((stk op k).filter (fun b=>decide ((i:Int)≤lastS op m b.s.toNat))).map Blk.s
 | 0,_,_=>⟨fun j h=>by omega,by simp [openS,stk]⟩
 | k+1,hk,hi=>by
  obtain ⟨ih1,ih2⟩:=open_any N hf i k (by omega) (by omega)
  have C:=N.ci (k+1) hk
  refine ⟨fun j hj ho o e hC he=>?_,?_⟩
  ·rcases C.opn j hj ho with h | ⟨o',e',h1,h2⟩
   ·exact h
   ·have:=(hC.uniq h2).2;omega
  by_cases h1:op k=48∨op k=51
  ·have e1:stk op (k+1)=stk op k++[⟨k,-1,decide (op k=51)⟩]:=by simp only [stk,stepS,if_pos h1]
   rw [e1,List.filter_append,List.map_append,← ih2,openS]
   by_cases hc:(i:Int)≤lastS op m k
   ·rw [if_pos ⟨h1,hc⟩]
    simp [hc]
   ·rw [if_neg (fun h=>hc h.2)]
    simp [hc]
  rw [openS,if_neg (fun h=>h1 h.1),ih2]
  by_cases h2:op k=49
  ·rcases List.eq_nil_or_concat (stk op k) with hL | ⟨M,b0,hL⟩
   ·have:=N.nst k (by omega)
    rw [hL] at this;simp [standN,h2] at this
   rw [List.concat_eq_append] at hL
   have e1:stk op (k+1)=M++[⟨b0.s,k,b0.l⟩]:=by rw [stk,hL,h2];simp [stepS]
   rw [e1,hL,List.filter_append,List.filter_append,List.map_append,List.map_append]
   congr 1
   by_cases hc:(i:Int)≤lastS op m b0.s.toNat <;> simp [hc]
  by_cases h3:op k=50
  ·rcases List.eq_nil_or_concat (stk op k) with hL | ⟨M,b0,hL⟩
   ·have:=N.nst k (by omega)
    rw [hL] at this;simp [standN,h3] at this
   rw [List.concat_eq_append] at hL
   have e1:stk op (k+1)=M:=by rw [stk,hL,h3];simp [stepS]
   obtain ⟨s,o,hC⟩:=N.ends (by omega:k<n) h3
   have hs:b0.s=s:=by
    obtain ⟨A,b,t1,t2⟩:=hC.top
    have:=(List.append_inj' (hL.symm.trans t1) rfl).2
    have e:b0=b:=by simpa using this
    rw [e,t2]
   have hlast:=last_is hf hC (by omega)
   rw [e1,hL,List.filter_append,List.map_append]
   have:¬ (i:Int)≤lastS op m b0.s.toNat:=by rw [hs,Int.toNat_natCast,hlast];omega
   simp [this]
  ·have e1:stk op (k+1)=stk op k:=by simp only [stk,stepS,if_neg h1,if_neg h2,if_neg h3]
   rw [e1]
theorem open_stk {op:Nat→Int}{n:Nat}{m:Nat→Int}(N:Nest op n)(hf:Fit op n (fun _ _=>True) m){i:Nat}(hi:i≤n):(openS op m i i).map (fun (j:Nat)=>(j:Int))=(stk op i).map Blk.s:=by
 rw [(open_any N hf i i hi (Nat.le_refl _)).2]
 rw [List.filter_eq_self.2]
 intro b hb
 obtain ⟨A,R,hA⟩:=List.append_of_mem hb
 obtain ⟨s,p1,p2,p3,p4,p5,p6,p7⟩:=(N.ci i hi).blk A b R hA
 obtain ⟨o,e,he,hC⟩:=N.opn (by omega:s<n) p3
 rw [p1,Int.toNat_natCast,last_is hf hC he]
 apply decide_eq_true
 have r:=(closeS_rng (op:=op) (f:=decide (op s=48)) (n - i) i R.length b.o).1
 rw [← p7,hC.at'] at r
 simp only at r
 omega
end Go.Proofs.YtpmlnkjamhelnaaGreat
namespace Go.Proofs.YtpmlnkjamhelnaaGreat
def Goes (L:List OB)(S:List Blk):Prop:=L.map OB.lo=S.map Blk.l
theorem Goes.len {L:List OB}{S:List Blk}(h:Goes L S):L.length=S.length:=by have:=congrArg List.length h;simpa using this
theorem Goes.at' {L:List OB}{S:List Blk}(h:Goes L S)(i:Nat):L[i]?.map OB.lo=S[i]?.map Blk.l:=by rw [← List.getElem?_map,← List.getElem?_map,h]
theorem Goes.first {L:List OB}{S:List Blk}(h:Goes L S):∀ k,k≤S.length→fstIx (fun i=>(L[i]?.map OB.lo).getD false) k=firstIx S Blk.l k
 | 0,_=>rfl
 | k+1,hk=>by
  rw [fstIx,firstIx,h.at' k,List.getElem?_eq_getElem (by omega:k<S.length)]
  simp only [Option.map_some,Option.getD_some]
  rw [h.first k (by omega)]
theorem Goes.lp {L:List OB}{S:List Blk}(h:Goes L S):lpIx L=firstIx S Blk.l S.length:=by rw [lpIx,h.len,h.first _ (Nat.le_refl _)]
theorem Goes.ok {L:List OB}{S:List Blk}(h:Goes L S){n:Int}(hs:standS n S=true):TurnOk n L:=by
 unfold standS at hs
 refine ⟨fun hn hL=>?_,fun hn=>?_⟩
 ·have h0:S=[]:=by have:=h.len;rw [hL] at this;exact List.eq_nil_of_length_eq_zero this.symm
  subst h0
  rcases hn with rfl | rfl <;> simp at hs
 ·subst hn
  rw [h.lp]
  simpa using hs
theorem Goes.next {L:List OB}{S:List Blk}(h:Goes L S)(n x:Int)(p:List Int)(hs:standS n S=true):Goes (turnW n p L).2.2 (stepS n x S):=by
 unfold turnW stepS
 by_cases h1:n=48∨n=51
 ·rw [if_pos h1,if_pos h1]
  show (L++[_]).map OB.lo=(S++[_]).map Blk.l
  rw [List.map_append,List.map_append,show L.map OB.lo=S.map Blk.l from h]
  rfl
 rw [if_neg h1,if_neg h1]
 by_cases h2:n=49
 ·rw [if_pos h2,if_pos h2]
  rcases List.eq_nil_or_concat L with rfl | ⟨M,b,rfl⟩
  ·have:S=[]:=by have:=h.len;exact List.eq_nil_of_length_eq_zero this.symm
   subst this
   exact h
  rcases List.eq_nil_or_concat S with rfl | ⟨T,c,rfl⟩
  ·have:=h.len;simp at this
  rw [List.concat_eq_append,List.concat_eq_append] at h ⊢
  have h':M.map OB.lo++[b.lo]=T.map Blk.l++[c.l]:=by simpa [Goes] using h
  obtain ⟨q1,q2⟩:=List.append_inj' h' rfl
  have q3:b.lo=c.l:=by simpa using q2
  simp only [List.getLast?_append,List.getLast?_singleton,Option.some_or,List.dropLast_concat]
  show (M++[_]).map OB.lo=(T++[_]).map Blk.l
  simp [q1,q3]
 rw [if_neg h2,if_neg h2]
 by_cases h3:n=50
 ·rw [if_pos h3,if_pos h3]
  rcases List.eq_nil_or_concat L with rfl | ⟨M,b,rfl⟩
  ·have:S=[]:=by have:=h.len;exact List.eq_nil_of_length_eq_zero this.symm
   subst this
   exact h
  rcases List.eq_nil_or_concat S with rfl | ⟨T,c,rfl⟩
  ·have:=h.len;simp at this
  rw [List.concat_eq_append,List.concat_eq_append] at h ⊢
  have h':M.map OB.lo++[b.lo]=T.map Blk.l++[c.l]:=by simpa [Goes] using h
  obtain ⟨q1,_⟩:=List.append_inj' h' rfl
  simp only [List.getLast?_append,List.getLast?_singleton,Option.some_or,List.dropLast_concat]
  exact q1
 rw [if_neg h3,if_neg h3]
 by_cases h4:n=52
 ·rw [if_pos h4]
  cases (lpIx L).bind (fun i=>L[i]?) with
  | none=>exact h
  | some b=>exact h
 ·rw [if_neg h4];exact h
end Go.Proofs.YtpmlnkjamhelnaaGreat
namespace Go.Proofs.YtpmlnkjamhelnaaGreat
def chkFrom (fs:List Fn)(sl res:List Int):List (Int × Int)→List Int→List OB→List (List Int)→Int × List (List Int)
 | [],p,_,R=>if alikeS p res=0 then (0,R++[p]) else (alikeS p res,[])
 | x :: r,p,L,R=>if (passW fs sl x p L).1=0 then chkFrom fs sl res r (passW fs sl x p L).2.1 (passW fs sl x p L).2.2 (R++[p]) else ((passW fs sl x p L).1,[])
theorem tab_le:(∀ k:Fin 54,(inTab.getD k.1 []).length≤10)∧∀ k:Fin 54,(outTab.getD k.1 []).length≤10:=by decide
theorem inT_le (n:Int):(inT n).length≤10:=by
 unfold inT rowOf
 split
 ·exact tab_le.1 ⟨n.toNat,by omega⟩
 ·exact Nat.zero_le _
theorem outT_le (n:Int):(outT n).length≤10:=by
 unfold outT rowOf
 split
 ·exact tab_le.2 ⟨n.toNat,by omega⟩
 ·exact Nat.zero_le _
def HeadsR (fs:List Fn):Prop:=∀ f ∈ fs,f.p.length≤8∧f.r.length≤8
theorem fnAt_le {fs:List Fn}(h:HeadsR fs)(k:Int):(fnAt fs k).p.length≤8∧(fnAt fs k).r.length≤8:=by
 unfold fnAt
 rw [List.getD_eq_getElem?_getD]
 cases hk:fs[k.toNat]? with
 | none=>exact ⟨Nat.zero_le _,Nat.zero_le _⟩
 | some f=>exact h f (List.mem_of_getElem? hk)
theorem takenS_le {fs:List Fn}(h:HeadsR fs)(sl:List Int)(x:Int × Int):(takenS fs sl x).length≤10:=by
 unfold takenS
 split
 ·simp
 split
 ·have:=(fnAt_le h x.2).1;omega
 ·exact inT_le _
theorem givenS_le {fs:List Fn}(h:HeadsR fs)(sl:List Int)(x:Int × Int)(had:List Int):(givenS fs sl x had).length≤2*had.length+10:=by
 unfold givenS
 split
 ·rw [List.length_append];omega
 split
 ·rw [List.length_append,List.length_drop,List.length_singleton];omega
 split
 ·rw [List.length_append,List.length_singleton];omega
 split
 ·simp
 split
 ·have:=(fnAt_le h x.2).2;omega
 ·have:=outT_le x.1;omega
theorem stepW_le {fs:List Fn}(h:HeadsR fs)(sl:List Int)(x:Int × Int)(p:List Int)(hp:p.length≤32):(stepW fs sl x p).2.length≤200:=by
 unfold stepW
 split
 ·have:=givenS_le h sl x (p.drop (takeS p (takenS fs sl x)).2)
  rw [List.length_drop] at this
  simp only [List.length_append,List.length_take]
  omega
 ·show p.length≤200;omega
def OBs (L:List OB):Prop:=∀ b ∈ L,b.en.length≤1000∧b.la.length≤1000
theorem turnW_obs {n:Int}{p:List Int}{L:List OB}(h:OBs L)(hp:p.length≤1000):OBs (turnW n p L).2.2:=by
 unfold turnW
 split
 ·intro b hb
  rcases List.mem_append.1 hb with hb | hb
  ·exact h b hb
  ·rw [List.mem_singleton] at hb;subst hb;exact ⟨hp,hp⟩
 split
 ·cases hl:L.getLast? with
  | none=>exact h
  | some c =>
   intro b hb
   rcases List.mem_append.1 hb with hb | hb
   ·exact h b (List.dropLast_subset _ hb)
   ·rw [List.mem_singleton] at hb;subst hb;exact ⟨(h c (List.mem_of_getLast? hl)).1,hp⟩
 split
 ·cases L.getLast? with
  | none=>exact h
  | some c=>exact fun b hb=>h b (List.dropLast_subset _ hb)
 split
 ·cases (lpIx L).bind (fun i=>L[i]?) with
  | none=>exact h
  | some c=>exact h
 ·exact h
theorem pass_ok {fs:List Fn}(hh:HeadsR fs){sl:List Int}{x:Int × Int}{p:List Int}{L:List OB}{S:List Blk}(hp:p.length≤32)(hL:OBs L)(hg:Goes L S)(hs:standS x.1 S=true)(k:Int)(h0:(passW fs sl x p L).1=0) :
  (passW fs sl x p L).2.1.length≤32∧OBs (passW fs sl x p L).2.2∧Goes (passW fs sl x p L).2.2 (stepS x.1 k S):=by
 have hst:=stepW_le hh sl x p hp
 have h1:OBs (turnW x.1 (stepW fs sl x p).2 L).2.2:=turnW_obs hL (by omega)
 have h2:=hg.next x.1 k (stepW fs sl x p).2 hs
 unfold passW at h0 ⊢
 split at h0
 ·exact absurd h0 (by assumption)
 rename_i g1
 rw [if_neg g1]
 split at h0
 ·exact absurd h0 (by assumption)
 rename_i g2
 rw [if_neg g2]
 split at h0
 ·simp at h0
 rename_i g3
 rw [if_neg g3]
 exact ⟨by show (turnW x.1 (stepW fs sl x p).2 L).2.1.length≤32;omega,h1,h2⟩
end Go.Proofs.YtpmlnkjamhelnaaGreat
namespace Go.Proofs.YtpmlnkjamhelnaaGreat
open Go.RowKit Go.Shelf
theorem elemN_sli:ElemN Tryz.prog 58 28 1 24:=by
 refine ⟨Tryz.underlying58,?_,by decide⟩
 obtain ⟨i,hi,h1,h2,h3⟩:=info_parts (show (Tryz.prog.info? 28).map (fun i=>(i.zero,i.size,i.bytes))=some (some (.slice none 0 0),1,24) by kernel_rfl)
 exact ⟨i,_,hi,h1,h2,h3,rfl⟩
theorem match7 (cs:List (Int × Int))(a:Option Addr)(c n:Nat)(hn:cs.length=n)(bn:n≤1000000000)(w:World)(h:IsAt w.cell? a cs):Calls Tryz.prog 111 #[.slice a n c] w (MatchEnd cs w):=by
 subst hn
 rcases h with rfl | ⟨b,off,rfl,hh⟩
 ·exact match_any [] a c 0 0 (.inl rfl) (by omega) w (fun j h=>by cases h)
 ·exact match_any cs _ c b off (.inr rfl) (by omega) w hh
def Mr (W W':World):Prop:=W.heap.size≤W'.heap.size∧∀ (k:Nat) (cur:Array Value) (t:TypeId) (z:Nat × Nat),t≠28→W.heap[k]?=some (.cells cur t z)→W'.heap[k]?=some (.cells cur t z)
theorem Mr.below {W W':World}(h:Below W.heap.size W W'):Mr W W':=⟨h.size,fun k _ _ _ _ hk=>(h.block k (blk_lt hk)).trans hk⟩
theorem Mr.trans {A B C:World}(h:Mr A B)(g:Mr B C):Mr A C:=⟨Nat.le_trans h.1 g.1,fun k cur t z h1 hk=>g.2 k cur t z h1 (h.2 k cur t z h1 hk)⟩
theorem Mr.step {W W':World}{base n:Nat}{v v':Value}{xs:List Value}(hr:W.ownsRow base 28 1 v n xs)(hs:Step W v W' v'):Mr W W':=by
 refine ⟨hs.1.size,fun k cur t z h1 hk=>(hs.1.block k (blk_lt hk) fun h=>?_).trans hk⟩
 rcases hr.2 with ⟨rfl,_⟩ | ⟨g,cap,cur',rfl,_,hh,_⟩
 ·cases h
 ·cases h
  rw [hk] at hh
  cases hh
  exact h1 rfl
theorem NsIn.mr {B:Nat}{W W':World}{a:Option Addr}{ns:List Int}(h:NsIn B W a ns)(m:Mr W W'):NsIn B W' a ns:=by
 rcases h with h | ⟨b,off,cur,e,hB,hb,hc⟩
 ·exact .inl h
 ·have hb':=m.2 b cur 3 (0,0) (by decide) hb
  exact .inr ⟨b,off,cur,e,hB,hb',fun j hj=>(cell_heap7 (hb'.trans hb.symm)).trans (hc j hj)⟩
theorem OBat.mr {B:Nat}{x:OB}{b:Nat}{W W':World}(h:OBat B x b W)(m:Mr W W'):OBat B x b W':=by
 obtain ⟨a1,c1,a2,c2,h1,h2,h3,h4,h5⟩:=h
 exact ⟨a1,c1,a2,c2,m.2 _ _ _ _ (by decide) h1,h2,h3,h4.mr m,h5.mr m⟩
theorem WStA.mr {wb:Nat}{fv sv:Value}{p:List Int}{L:List OB}{a:Option Addr}{c:Nat}{la:Option Addr}{lc:Nat}{bs:List Nat}{W W':World}(h:WStA wb fv sv p L a c la lc bs W)(m:Mr W W'):WStA wb fv sv p L a c la lc bs W':=by
 refine ⟨m.2 _ _ _ _ (by decide) h.box,h.cap,h.stk.mr m,?_,h.len,h.nod,h.gt,fun i hi=>(h.blk i hi).mr m⟩
 refine ⟨h.row.1,?_⟩
 rcases h.row.2 with h2 | ⟨g,cap,cur,e,hg,hh,r⟩
 ·exact .inl h2
 ·exact .inr ⟨g,cap,cur,e,hg,m.2 _ _ _ _ (by decide) hh,r⟩
def RwI (B:Nat)(W:World)(vs:List Value)(R:List (List Int)):Prop:=vs.length=R.length∧∀ j (h:j<R.length),∃ a c,vs[j]?=some (.slice a R[j].length c)∧R[j].length≤c∧NsIn B W a R[j]
theorem RwI.mv {B:Nat}{W W':World}{vs:List Value}{R:List (List Int)}(h:RwI B W vs R)(hm:∀ a ns,NsIn B W a ns→NsIn B W' a ns):RwI B W' vs R:=⟨h.1,fun j hj=>by
 obtain ⟨a,c,h1,h2,h3⟩:=h.2 j hj
 exact ⟨a,c,h1,h2,hm _ _ h3⟩⟩
theorem RwI.snoc {B:Nat}{W:World}{vs:List Value}{R:List (List Int)}{p:List Int}{a:Option Addr}{c:Nat}(h:RwI B W vs R)(hc:p.length≤c)(hN:NsIn B W a p):RwI B W (vs++[.slice a p.length c]) (R++[p]):=by
 refine ⟨by simp [h.1],fun j hj=>?_⟩
 rw [List.length_append,List.length_singleton] at hj
 by_cases hjr:j<R.length
 ·obtain ⟨a',c',h1,h2,h3⟩:=h.2 j hjr
  refine ⟨a',c',?_,?_,?_⟩
  ·rw [List.getElem?_append_left (by rw [h.1];exact hjr),List.getElem_append_left hjr];exact h1
  ·rw [List.getElem_append_left hjr];exact h2
  ·rw [List.getElem_append_left hjr];exact h3
 ·have hjr:j=R.length:=by omega
  subst hjr
  rw [List.getElem_append_right (Nat.le_refl _)]
  simp only [Nat.sub_self,List.getElem_cons_zero]
  exact ⟨a,c,by rw [← h.1,List.getElem?_append_right (Nat.le_refl _)];simp,hc,hN⟩
theorem row_mv7 {W W':World}{base n:Nat}{v:Value}{xs:List Value}(h:W.ownsRow base 28 1 v n xs)(m:Mv7 W W'):W'.ownsRow base 28 1 v n xs:=by
 refine ⟨h.1,?_⟩
 rcases h.2 with h2 | ⟨g,cap,cur,e,hg,hh,r⟩
 ·exact .inl h2
 ·exact .inr ⟨g,cap,cur,e,hg,m.2 _ _ _ _ (by decide) (by decide) (by decide) hh,r⟩
end Go.Proofs.YtpmlnkjamhelnaaGreat
namespace Go.Proofs.YtpmlnkjamhelnaaGreat
open Go.RowKit
theorem cell_op {w:World}{cb co:Nat}{cs:List (Int × Int)}(h:IsAt w.cell? (some ⟨cb,co,none⟩) cs)(j:Nat)(hj:j<cs.length):w.cell? ⟨cb,co+j*2,none⟩=some (.int .i64 (opA cs j)):=is_at h j hj
set_option maxRecDepth 100000 in
set_option maxHeartbeats 1000000 in
theorem closes_any (cs:List (Int × Int))(cb co cc n:Nat)(hn:cs.length=n)(bn:n≤1000000000)(i:Nat)(hi:i<n)(w:World)(hc:IsAt w.cell? (some ⟨cb,co,none⟩) cs) :
  Calls Tryz.prog 125 #[.slice (some ⟨cb,co,none⟩) n cc,.int .i64 i] w fun e w'=>e=.returned (.tuple #[.int .i64 (closeAt (opA cs) n i).1,.int .i64 (closeAt (opA cs) n i).2])∧w'=w:=by
 obtain ⟨r,hr⟩:∃ r,r=closeAt (opA cs) n i:=⟨_,rfl⟩
 rw [← hr]
 have HC:Hid (∀ j,j<n→w.cell? ⟨cb,co+j*2,none⟩=some (.int .i64 (opA cs j))):=hid6 fun j hj=>cell_op hc j (by omega)
 have HR:=hid6 hr
 clear hr hc hn
 go_enter Tryz.func125,Tryz.ntmps125
 go_wp2
 go_loopw [6,7,8] (fun dv ov jv wr=>∃ (d j:Nat) (o:Int),dv=.int .i64 d∧ov=.int .i64 o∧jv=.int .i64 j∧i<j∧j≤n∧d≤j∧-1≤o∧Hid (r=closeS (opA cs) (decide (opA cs i=48)) (n - j) j d o)∧wr=w) (fun _ _ jv _=>n - (intOf jv).toNat)
 case atStart=>exact ⟨0,i+1,-1,rfl,rfl,by go_num,by omega,by omega,by omega,by omega,HR,rfl⟩
 case round =>
  obtain ⟨d,j,o,rfl,rfl,rfl,h1,h2,h3,h4,H5,rfl⟩:=hrel
  by_cases hj:j<n
  ·have c0:=HC.out j hj
   have c1:=HC.out i hi
   have H6:=hid6 (H5.out.trans (closeS_succ hj))
   clear H5 HR
   generalize opA cs j=o1 at c0 H6
   generalize hfo:opA cs i=o2 at c1 H6
   clear hfo
   by_cases e1:o1=48
   ·subst e1
    have H7:=hid6 (H6.out.trans (if_pos (.inl rfl)))
    go_wp2
    refine ⟨⟨d+1,j+1,o,by go_num,rfl,by go_num,by omega,by omega,by omega,h4,H7,by trivial⟩,by simp [intOf];omega⟩
   by_cases e2:o1=51
   ·subst e2
    have H7:=hid6 (H6.out.trans (if_pos (.inr rfl)))
    go_wp2
    refine ⟨⟨d+1,j+1,o,by go_num,rfl,by go_num,by omega,by omega,by omega,h4,H7,by trivial⟩,by simp [intOf];omega⟩
   have H7:=hid6 (H6.out.trans (if_neg (by omega)))
   clear H6
   by_cases e3:o1=49
   ·subst e3
    have H8:=hid6 (H7.out.trans (if_pos rfl))
    clear H7
    by_cases e4:d=0
    ·subst e4
     have H9:=hid6 (H8.out.trans (if_pos rfl))
     clear H8
     by_cases e5:0≤o
     ·have H10:=hid6 (H9.out.trans (if_pos (.inl e5)))
      clear H9
      go_wp2
      go_ret2
      exact ⟨by rw [H10.out];rfl,rfl⟩
     ·by_cases e6:o2=48
      ·subst e6
       have H10:=hid6 (H9.out.trans (if_neg (by simp;omega)))
       clear H9
       go_wp2
       refine ⟨⟨0,j+1,j,rfl,rfl,by go_num,by omega,by omega,by omega,by omega,H10,by trivial⟩,by simp [intOf];omega⟩
      ·have H10:=hid6 (H9.out.trans (if_pos (.inr (by simp [e6]))))
       clear H9
       go_wp2
       go_ret2
       exact ⟨by rw [H10.out];rfl,rfl⟩
    ·have H9:=hid6 (H8.out.trans (if_neg e4))
     clear H8
     go_wp2
     refine ⟨⟨d,j+1,o,rfl,rfl,by go_num,by omega,by omega,by omega,h4,H9,by trivial⟩,by simp [intOf];omega⟩
   have H8:=hid6 (H7.out.trans (if_neg e3))
   clear H7
   by_cases e7:o1=50
   ·subst e7
    have H9:=hid6 (H8.out.trans (if_pos rfl))
    clear H8
    by_cases e4:d=0
    ·subst e4
     have H10:=hid6 (H9.out.trans (if_pos rfl))
     clear H9
     go_wp2
     go_ret2
     exact ⟨by rw [H10.out];rfl,rfl⟩
    ·have H10:=hid6 (H9.out.trans (if_neg e4))
     clear H9
     go_wp2
     refine ⟨⟨d - 1,j+1,o,by go_num,rfl,by go_num,by omega,by omega,by omega,h4,H10,by trivial⟩,by simp [intOf];omega⟩
   have H9:=hid6 (H8.out.trans (if_neg e7))
   clear H8
   go_wp2
   refine ⟨⟨d,j+1,o,rfl,rfl,by go_num,by omega,by omega,by omega,h4,H9,by trivial⟩,by simp [intOf];omega⟩
  ·have:j=n:=by omega
   subst this
   have H6:Hid (r=(o,-1)):=hid6 (by rw [H5.out,Nat.sub_self,closeS])
   clear H5 HR
   go_wp2
   go_ret2
   exact ⟨by rw [H6.out];rfl,rfl⟩
def gI (ms:List Int)(j:Nat):Int:=ms.getD j 0
structure Noted (op:Nat→Int)(n:Nat)(ms:List Int):Prop where
 len:ms.length=n
 rng:∀ j,j<n→Opn op j→0≤gI ms j∧gI ms j<n
set_option maxRecDepth 100000 in
set_option maxHeartbeats 1000000 in
theorem last6_any (cs:List (Int × Int))(ms:List Int)(cb co cc g n:Nat)(hn:cs.length=n)(i:Nat)(hi:i<n)(w:World)(hc:IsAt w.cell? (some ⟨cb,co,none⟩) cs)(hm:NumBlk g ms w)(hN:Noted (opA cs) n ms)(ho:Opn (opA cs) i) :
  Calls Tryz.prog 161 #[.slice (some ⟨cb,co,none⟩) n cc,.slice (some ⟨g,0,none⟩) n n,.int .i64 i] w fun e w'=>e=.returned (.int .i64 (lastS (opA cs) (gI ms) i))∧w'=w:=by
 have hv:∀ j,j<n→w.cell? ⟨g,j,none⟩=some (.int .i64 (gI ms j)):=fun j hj=>by
  have hl:=hN.len
  have:=(hm.at j (by omega)).1
  rwa [gI,List.getD_eq_getElem?_getD,List.getElem?_eq_getElem (by omega)]
 have m0:=hv i hi
 obtain ⟨r0,r1⟩:=hN.rng i hi ho
 obtain ⟨k,hk⟩:∃ k:Nat,gI ms i=k:=⟨(gI ms i).toNat,by omega⟩
 have c0:=cell_op hc k (by omega)
 have m1:=hv k (by omega)
 have HE:Hid (lastS (opA cs) (gI ms) i=if opA cs k=49 then gI ms k else (k:Int)):=hid6 (by
  unfold lastS
  simp only [hk,Int.toNat_natCast])
 rw [hk] at m0
 have hkn:k<n:=by omega
 generalize opA cs k=o at c0 HE
 generalize gI ms k=y at m1 HE
 clear hc hm hN ho hv hn r0 r1 hk
 by_cases h49:o=49
 ·subst h49
  have HE:=hid6 (HE.out.trans (if_pos rfl))
  go_enter Tryz.func161,Tryz.ntmps161
  go_wp2
  go_ret
  exact ⟨by rw [HE.out];rfl,rfl⟩
 ·have HE:=hid6 (HE.out.trans (if_neg h49))
  go_enter Tryz.func161,Tryz.ntmps161
  go_wp2
  go_ret
  exact ⟨by rw [HE.out];rfl,rfl⟩
def OpenEnd (ns:List Int)(w:World)(e:Ending)(w':World):Prop:=∃ a cc,e=.returned (.slice a ns.length cc)∧w'.ownsRow w.heap.size 3 1 (.slice a ns.length cc) ns.length (cellsN ns)∧Below w.heap.size w w'
set_option maxRecDepth 100000 in
set_option maxHeartbeats 1000000 in
theorem opened_any (cs:List (Int × Int))(ms:List Int)(cb co cc g n:Nat)(hn:cs.length=n)(bn:n≤1000000000)(i:Nat)(hi:i≤n)(w:World)(hc:IsAt w.cell? (some ⟨cb,co,none⟩) cs)(hm:NumBlk g ms w)(hN:Noted (opA cs) n ms) :
  Calls Tryz.prog 126 #[.slice (some ⟨cb,co,none⟩) n cc,.slice (some ⟨g,0,none⟩) n n,.int .i64 i] w (OpenEnd ((openS (opA cs) (gI ms) i i).map (fun (j:Nat)=>(j:Int))) w):=by
 have HL:Hid (∀ W j,j<i→Opn (opA cs) j→Below w.heap.size w W→Calls Tryz.prog 161 #[.slice (some ⟨cb,co,none⟩) n cc,.slice (some ⟨g,0,none⟩) n n,.int .i64 j] W fun e w'=>e=.returned (.int .i64 (lastS (opA cs) (gI ms) j))∧w'=W):=hid6 fun W j hj ho hb =>
  last6_any cs ms cb co cc g n hn j (by omega) W (hc.keep fun a v h=>(hb.cell (World.block_lt_of_cell? w a h)).trans h) ((hb.block _ (blk_lt hm)).trans hm) hN ho
 have HC:Hid (∀ W j,j<n→Below w.heap.size w W→W.cell? ⟨cb,co+j*2,none⟩=some (.int .i64 (opA cs j))):=hid6 fun W j hj hb=>cell_op (hc.keep fun a v h=>(hb.cell (World.block_lt_of_cell? w a h)).trans h) j (by omega)
 obtain ⟨L,hL⟩:∃ L:Nat→List Int,L=fun k=>(openS (opA cs) (gI ms) i k).map (fun (j:Nat)=>(j:Int)):=⟨_,rfl⟩
 have HL0:Hid (L 0=[]):=hid6 (by rw [hL];rfl)
 have HLl:Hid (∀ k,(L k).length≤k):=hid6 (by
  intro k
  rw [hL]
  simp only [List.length_map]
  induction k with
  | zero=>exact Nat.zero_le _
  | succ k ih =>
   rw [openS]
   split
   ·rw [List.length_append];exact Nat.succ_le_succ ih
   ·omega)
 have HL1:Hid (∀ k,Opn (opA cs) k→(i:Int)≤lastS (opA cs) (gI ms) k→L (k+1)=L k++[(k:Int)]):=hid6 fun k a b=>by
  rw [hL]
  simp only [openS,if_pos (And.intro a b),List.map_append,List.map_cons,List.map_nil]
 have HL2:Hid (∀ k,¬ (Opn (opA cs) k∧(i:Int)≤lastS (opA cs) (gI ms) k)→L (k+1)=L k):=hid6 fun k a=>by
  rw [hL]
  simp only [openS,if_neg a]
 rw [show (openS (opA cs) (gI ms) i i).map (fun (j:Nat)=>(j:Int))=L i by rw [hL]]
 clear hL hc hm hN hn
 go_enter Tryz.func126,Tryz.ntmps126
 go_wp2
 go_loopw [7,8] (fun v kv wr=>∃ k:Nat,kv=.int .i64 k∧k≤i∧wr.ownsRow w.heap.size 3 1 v (L k).length (cellsN (L k))∧Below w.heap.size w wr) (fun _ kv _=>i - (intOf kv).toNat)
 case atStart=>exact ⟨0,rfl,Nat.zero_le _,by rw [HL0.out];exact World.ownsRow_nil _ _ _ _,Below.refl _ _⟩
 case round =>
  obtain ⟨k,rfl,hk,hrow,hb⟩:=hrel
  by_cases hki:k<i
  ·have c0:=HC.out wr k (by omega) hb
   have hkl:=HLl.out k
   by_cases ho:Opn (opA cs) k
   ·have hlast:=hid6 (HL.out wr k hki ho hb)
    have HL1:=hid6 (HL1.out k ho)
    have HL2:=hid6 (HL2.out k)
    generalize hx:lastS (opA cs) (gI ms) k=x at hlast HL1 HL2
    clear hx
    have hcase:(opA cs k=48∨opA cs k=51):=ho
    generalize opA cs k=o at c0 hcase
    have hr:=hid6 hrow
    obtain ⟨av,ac,e0,_⟩:=row_form hrow
    clear hrow
    subst e0
    by_cases hix:(i:Int)≤x
    ·have HE:Hid (L (k+1)=L k++[(k:Int)]):=hid6 (HL1.out hix)
     clear HL1 HL2
     have b1:=hid6 (hb.alloc hb.size (.cells #[.int .i64 (k:Int)] 3))
     have r1:=hid6 (World.ownsRow.alloc hr.out (.cells #[.int .i64 (k:Int)] 3))
     have hbs:=hb.size
     rcases hcase with rfl | rfl
     all_goals
      go_wp2_with (first
       | (go_at_call 161;refine hlast.out.mono ?_;clear hlast;rintro e w9 ⟨rfl,w9e⟩;rw [w9e];clear w9e)
       | (at_builtin;refine wpList_appN _ rfl _ _ 28 rfl elemN_int w.heap.size _ (L k).length (cellsN (L k)) rfl r1.out _ rfl 1 [.int .i64 (k:Int)] (.inr ⟨⟨_,0,none⟩,1,rfl,cells_new6 _ [.int .i64 (k:Int)] 3 _ rfl⟩) rfl (by simp [Value.oneCell']) (by unfold maxLen;omega) (by omega) (by simp;omega) ?_;intro v' w6 hr6 hs6)
       | fail)
      refine ⟨⟨k+1,by go_num,by omega,?_,b1.out.trans (hs6.below (by simp;omega) fun g e=>(r1.out.lt g e).1)⟩,by simp [intOf];omega⟩
      rw [HE.out,List.length_append,show cellsN (L k++[(k:Int)])=cellsN (L k)++[.int .i64 (k:Int)] by simp [cellsN]]
      exact hr6
    ·have HE:Hid (L (k+1)=L k):=hid6 (HL2.out fun h=>hix h.2)
     clear HL1 HL2
     rcases hcase with rfl | rfl
     all_goals
      go_wp2_with (first
       | (go_at_call 161;refine hlast.out.mono ?_;clear hlast;rintro e w9 ⟨rfl,w9e⟩;rw [w9e];clear w9e)
       | fail)
      refine ⟨⟨k+1,by go_num,by omega,?_,hb⟩,by simp [intOf];omega⟩
      rw [HE.out]
      exact hr.out
   ·have HE:Hid (L (k+1)=L k):=hid6 (HL2.out k fun h=>ho h.1)
    have o1:¬ opA cs k=48:=fun h=>ho (.inl h)
    have o2:¬ opA cs k=51:=fun h=>ho (.inr h)
    have hr:=hid6 hrow
    obtain ⟨av,ac,e0,_⟩:=row_form hrow
    clear hrow ho
    subst e0
    generalize opA cs k=o at c0 o1 o2
    go_wp2
    refine ⟨⟨k+1,by go_num,by omega,?_,hb⟩,by simp [intOf];omega⟩
    rw [HE.out]
    exact hr.out
  ·have hki:k=i:=by omega
   subst hki
   have hr:=hid6 hrow
   obtain ⟨av,ac,e0,_⟩:=row_form hrow
   clear hrow
   subst e0
   go_wp2
   go_ret
   exact ⟨av,ac,rfl,hr.out,hb⟩
end Go.Proofs.YtpmlnkjamhelnaaGreat
namespace Go.Proofs.YtpmlnkjamhelnaaGreat
def lvV (op:Nat→Int)(n j:Nat):Int:=if lvS (stk op j)=-1 then -1 else gI (docS op n n) (lvS (stk op j)).toNat
def thS (op:Nat→Int)(n:Nat):Nat→List Int
 | 0=>docS op n n
 | k+1=>if op k=52 then (thS op n k).set k (lvV op n k) else thS op n k
theorem thS_len (op:Nat→Int)(n:Nat):∀ k,(thS op n k).length=n
 | 0=>docS_len op n n
 | k+1=>by
  rw [thS]
  split
  ·rw [List.length_set,thS_len op n k]
  ·exact thS_len op n k
theorem thS_get {op : Nat → Int} {n j : Nat} (hj : j < n) : ∀ k, gI (thS op n k) j = if op j = 52 ∧ j < k then lvV op n j else gI (docS op n n) j
  | 0 => by rw [if_neg (by omega)]; rfl
  | k + 1 => by
    have ih := thS_get (op := op) hj k
    rw [thS]
    by_cases h : op k = 52
    · rw [if_pos h, gI, gset _ _ _ _ (by rw [thS_len]; exact hj)]
      by_cases hk : k = j
      · subst hk
        rw [if_pos rfl, if_pos ⟨h, Nat.lt_succ_self _⟩]
      · rw [if_neg hk]
        refine ih.trans ?_
        by_cases hc : op j = 52 ∧ j < k
        · rw [if_pos hc, if_pos ⟨hc.1, by omega⟩]
        · rw [if_neg hc, if_neg (fun h => hc ⟨h.1, by omega⟩)]
    · rw [if_neg h, ih]
      by_cases hc : op j = 52 ∧ j < k
      · rw [if_pos hc, if_pos ⟨hc.1, by omega⟩]
      · rw [if_neg hc, if_neg (fun h2 => hc ⟨h2.1, by have : j ≠ k := by rintro rfl; exact h h2.1
                                                      omega⟩)]
theorem doc_fit {op:Nat→Int}{n:Nat}(N:Nest op n):Fit op n (fun _ _=>True) (gI (docS op n n)):=fun s o e hC _ he=>docFit N n (Nat.le_refl _) s o e hC (by have:=hC.lt;show s<n;omega) he
theorem th_fit {op:Nat→Int}{n:Nat}(N:Nest op n)(k:Nat):Fit op n (fun _ _=>True) (gI (thS op n k)):=by
 intro s o e hC _ he
 obtain ⟨i1,i2,i3⟩:=doc_fit N s o e hC trivial he
 have q1:=hC.end'
 have q2:=hC.lt
 have q3:=hC.opn
 unfold Opn at q3
 refine ⟨?_,?_,fun x ex=>?_⟩
 ·rw [thS_get he,if_neg (by omega)];exact i1
 ·rw [thS_get (by omega),if_neg (by omega)];exact i2
 ·obtain ⟨c1,c2,c3,c4⟩:=hC.els' ex
  rw [thS_get (by omega),if_neg (by omega)];exact i3 x ex
theorem fit_noted {op:Nat→Int}{n:Nat}{ms:List Int}(N:Nest op n)(hl:ms.length=n)(hf:Fit op n (fun _ _=>True) (gI ms)):Noted op n ms:=by
 refine ⟨hl,fun j hj ho=>?_⟩
 obtain ⟨o,e,he,hC⟩:=N.opn hj ho
 rw [(hf _ _ _ hC trivial he).2.1]
 have:=hC.lt
 split
 ·omega
 ·rcases hC.els with c | ⟨x,c1,c2,c3,_⟩ <;> omega
theorem firstIx_snoc (L:List Blk)(b:Blk):∀ k,k≤L.length→firstIx (L++[b]) Blk.l k=firstIx L Blk.l k
 | 0,_=>rfl
 | k+1,h=>by
  rw [firstIx,firstIx,List.getElem?_append_left (by omega),firstIx_snoc L b k (by omega)]
theorem lvS_snoc (L:List Blk)(b:Blk):lvS (L++[b])=if b.l=true then b.s else lvS L:=by
 unfold lvS
 rw [List.length_append,List.length_singleton,firstIx]
 simp only [List.getElem?_concat_length]
 by_cases h:b.l=true
 ·rw [if_pos h,if_pos h];simp
 ·rw [if_neg h,if_neg h,firstIx_snoc L b _ (Nat.le_refl _)]
  cases hf:firstIx L Blk.l L.length with
  | none=>rfl
  | some i =>
   obtain ⟨hi,_⟩:=firstIx_lt hf
   simp only
   rw [List.getElem?_append_left hi]
def accS (op:Nat→Int)(ms:List Int)(L:List Int):Int:=L.foldl (fun a s=>if op s.toNat=51 then gI ms s.toNat else a) (-1)
theorem acc_lv {op:Nat→Int}{ms:List Int}(L:List Blk)(h:∀ b ∈ L,0≤b.s∧b.l=decide (op b.s.toNat=51)):accS op ms (L.map Blk.s)=if lvS L=-1 then -1 else gI ms (lvS L).toNat:=by
 rcases List.eq_nil_or_concat L with rfl | ⟨M,b,rfl⟩
 ·rfl
 rw [List.concat_eq_append] at h ⊢
 obtain ⟨h1,h2⟩:=h b (by simp)
 have ih:=acc_lv (op:=op) (ms:=ms) M (fun c hc=>h c (by simp [hc]))
 rw [lvS_snoc,List.map_append,accS,List.foldl_append]
 simp only [List.map_cons,List.map_nil,List.foldl_cons,List.foldl_nil]
 rw [show List.foldl (fun a s=>if op s.toNat=51 then gI ms s.toNat else a) (-1) (M.map Blk.s)=accS op ms (M.map Blk.s) from rfl,ih]
 by_cases hb:op b.s.toNat=51
 ·have hbl:b.l=true:=by rw [h2];exact decide_eq_true hb
  rw [if_pos hb,if_pos hbl,if_neg (by omega)]
 ·have hbl:¬ b.l=true:=by rw [h2];simpa using hb
  rw [if_neg hb,if_neg hbl]
termination_by L.length
decreasing_by
 subst_vars
 simp
theorem acc_stk {op:Nat→Int}{n i:Nat}(N:Nest op n)(hi:i≤n)(k:Nat):accS op (thS op n k) ((stk op i).map Blk.s)=lvV op n i:=by
 have hb:∀ b ∈ stk op i,∃ s:Nat,b.s=s∧s<i∧b.l=decide (op s=51):=by
  intro b hb
  obtain ⟨A,R,hA⟩:=List.append_of_mem hb
  obtain ⟨s,p1,p2,p3,p4,_⟩:=(N.ci i hi).blk A b R hA
  exact ⟨s,p1,p2,p4⟩
 rw [acc_lv _ (fun b h=>by obtain ⟨s,a1,a2,a3⟩:=hb b h;rw [a1,Int.toNat_natCast];exact ⟨by omega,a3⟩),lvV]
 by_cases h:lvS (stk op i)=-1
 ·rw [if_pos h,if_pos h]
 ·rw [if_neg h,if_neg h]
  have hs:(firstIx (stk op i) Blk.l (stk op i).length).isSome=true:=by
   cases hf:firstIx (stk op i) Blk.l (stk op i).length with
   | none=>exact absurd (by rw [lvS,hf]) h
   | some _=>rfl
  obtain ⟨s,a1,a2,a3⟩:=lvS_some N hi hs
  rw [a2,Int.toNat_natCast,thS_get (by omega),if_neg (by omega)]
theorem good_size {cs:List (Int × Int)}(h:goodS cs=true):∀ i,i≤cs.length→(stk (opA cs) i).length≤8
 | 0,_=>Nat.zero_le _
 | i+1,hi=>by
  have ih:=good_size h i (by omega)
  have hs:=((good_iff cs).1 h).1 i (by omega)
  rw [stk]
  unfold stepS
  split
  ·rename_i ho
   rw [standS,if_pos ho] at hs
   have:=of_decide_eq_true hs
   rw [List.length_append];simp;omega
  split
  ·cases (stk (opA cs) i).getLast? with
   | none=>exact ih
   | some b=>simp;omega
  split
  ·rw [List.length_dropLast];omega
  ·exact ih
theorem no_end {cs:List (Int × Int)}{i:Nat}(hi:i<cs.length)(ho:Opn (opA cs) i)(he:(closeAt (opA cs) cs.length i).2<0):goodS cs=false:=by
 cases hg:goodS cs with
 | false=>rfl
 | true =>
  obtain ⟨o,e,h1,hC⟩:=(good_nest hg).opn hi ho
  rw [hC.at'] at he
  simp only at he
  omega
theorem no_claim {cs:List (Int × Int)}{j:Nat}(hj:j<cs.length)(ho:opA cs j=49∨opA cs j=50)(he:gI (docS (opA cs) cs.length cs.length) j<0):goodS cs=false:=by
 cases hg:goodS cs with
 | false=>rfl
 | true =>
  have N:=good_nest hg
  rcases ho with ho | ho
  ·obtain ⟨s,e,h1,hC⟩:=N.els hj ho
   have:=(doc_fit N _ _ _ hC trivial h1).2.2 j rfl
   omega
  ·obtain ⟨s,o,hC⟩:=N.ends hj ho
   have:=(doc_fit N _ _ _ hC trivial hj).1
   omega
theorem no_room {cs:List (Int × Int)}{i:Nat}(hi:i<cs.length)(h:8<(stk (opA cs) i).length+(if Opn (opA cs) i then 1 else 0)):goodS cs=false:=by
 cases hg:goodS cs with
 | false=>rfl
 | true =>
  have h1:=good_size hg i (by omega)
  have hs:=((good_iff cs).1 hg).1 i (by omega)
  split at h
  ·rename_i ho
   have ho':opA cs i=48∨opA cs i=51:=ho
   rw [standS,if_pos ho'] at hs
   have:=of_decide_eq_true hs
   omega
  ·omega
theorem no_loop {cs:List (Int × Int)}{i:Nat}(N:Nest (opA cs) cs.length)(hi:i<cs.length)(ho:opA cs i=52)(h:lvV (opA cs) cs.length i<0):goodS cs=false:=by
 cases hg:goodS cs with
 | false=>rfl
 | true =>
  have hs:=((good_iff cs).1 hg).1 i (by omega)
  rw [ho] at hs
  obtain ⟨s,a1,a2,a3⟩:=lvS_some N (by omega:i≤cs.length) (by simpa [standS] using hs)
  rw [lvV,a2,if_neg (by omega),Int.toNat_natCast] at h
  obtain ⟨o,e,h1,hC⟩:=N.opn (by omega:s<cs.length) (.inr a3)
  have:=((fit_noted N (docS_len _ _ _) (doc_fit N)).rng s (by omega) (.inr a3)).1
  omega
theorem may_stand {cs:List (Int × Int)}{i:Nat}(N:Nest (opA cs) cs.length)(hi:i<cs.length)(h8:(stk (opA cs) i).length+(if Opn (opA cs) i then 1 else 0)≤8)(hl:opA cs i=52→0≤lvV (opA cs) cs.length i):standS (opA cs i) (stk (opA cs) i)=true:=by
 have hn:=N.nst i hi
 unfold standN at hn
 unfold standS
 by_cases h1:opA cs i=48∨opA cs i=51
 ·rw [if_pos h1]
  rw [if_pos (show Opn (opA cs) i from h1)] at h8
  exact decide_eq_true (by omega)
 rw [if_neg h1]
 by_cases h2:opA cs i=49
 ·rw [if_pos h2] at hn ⊢;exact hn
 rw [if_neg h2] at hn ⊢
 by_cases h3:opA cs i=50
 ·rw [if_pos h3] at hn ⊢;exact hn
 rw [if_neg h3]
 by_cases h4:opA cs i=52
 ·rw [if_pos h4]
  have:=hl h4
  cases hf:firstIx (stk (opA cs) i) Blk.l (stk (opA cs) i).length with
  | none =>
   rw [lvV,lvS,hf] at this
   simp at this
  | some _=>rfl
 ·rw [if_neg h4]
theorem doc_match {cs:List (Int × Int)}(hg:goodS cs=true):thS (opA cs) cs.length cs.length=matchS cs:=by
 have N:=good_nest hg
 have G:GM (opA cs) cs.length (gI (thS (opA cs) cs.length cs.length)):=by
  refine ⟨th_fit N _,fun j hj e=>?_,fun j hj a b c d=>?_⟩
  ·have hs:=((good_iff cs).1 hg).1 j hj
   rw [e] at hs
   obtain ⟨s,a1,a2,a3⟩:=lvS_some N (by omega:j≤cs.length) (by simpa [standS] using hs)
   refine ⟨s,a1,a2,a3,?_⟩
   rw [thS_get hj,if_pos ⟨e,hj⟩,thS_get (by omega),if_neg (by omega),lvV,a2,if_neg (by omega),Int.toNat_natCast]
  ·rw [thS_get hj,if_neg (fun h=>d h.1)]
   exact docOth N _ (Nat.le_refl _) j hj a b c
 have U:=G.uniq N (match_gm hg)
 refine List.ext_getElem (by rw [thS_len,matchS_len]) fun j h1 h2=>?_
 rw [thS_len] at h1
 have:=U j h1
 simp only [gI] at this
 rwa [List.getD_eq_getElem?_getD,List.getD_eq_getElem?_getD,List.getElem?_eq_getElem (by rw [thS_len];exact h1),List.getElem?_eq_getElem h2] at this
end Go.Proofs.YtpmlnkjamhelnaaGreat
