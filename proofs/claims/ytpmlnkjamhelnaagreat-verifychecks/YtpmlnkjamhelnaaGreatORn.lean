/- The document's Name, Takes. The document's In and Out. The document's Alike and take of layer 7. -/
import Derived.Test.YtpmlnkjamhelnaaGreatXE
import Derived.Deep.RegionWith
import Derived.Test.YtpmlnkjamhelnaaGreatTE
import Derived.Test.YtpmlnkjamhelnaaGreatYE
import Derived.Test.YtpmlnkjamhelnaaGreatCB
import Derived.Deep.RegionHeld3
import Derived.Test.YtpmlnkjamhelnaaGreatTL
import Derived.Test.YtpmlnkjamhelnaaGreatST
namespace Go.Proofs.YtpmlnkjamhelnaaGreat
open Go.RowKit
theorem cell_name4 (w:World)(k:Nat)(hk:k<54):(w.alloc (.cells #[.string ⟨#[]⟩,.string ⟨#[105,110,116]⟩,.string ⟨#[99,111,110,115,116]⟩,.string ⟨#[116,114,117,101]⟩,.string ⟨#[102,97,108,115,101]⟩,.string ⟨#[100,114,111,112]⟩,.string ⟨#[100,117,112]⟩,.string ⟨#[115,119,97,112]⟩,.string ⟨#[111,118,101,114]⟩,.string ⟨#[103,101,116]⟩,.string ⟨#[115,101,116]⟩,.string ⟨#[97,100,100]⟩,.string ⟨#[115,117,98]⟩,.string ⟨#[109,117,108]⟩,.string ⟨#[100,105,118]⟩,.string ⟨#[114,101,109]⟩,.string ⟨#[110,101,103]⟩,.string ⟨#[97,110,100]⟩,.string ⟨#[111,114]⟩,.string ⟨#[120,111,114]⟩,.string ⟨#[105,110,118]⟩,.string ⟨#[115,104,108]⟩,.string ⟨#[115,104,114]⟩,.string ⟨#[101,113]⟩,.string ⟨#[110,101]⟩,.string ⟨#[108,116]⟩,.string ⟨#[108,101]⟩,.string ⟨#[103,116]⟩,.string ⟨#[103,101]⟩,.string ⟨#[98,111,116,104]⟩,.string ⟨#[101,105,116,104,101,114]⟩,.string ⟨#[110,111,116]⟩,.string ⟨#[108,101,110]⟩,.string ⟨#[106,111,105,110]⟩,.string ⟨#[99,117,116]⟩,.string ⟨#[97,116]⟩,.string ⟨#[115,97,109,101]⟩,.string ⟨#[108,101,115,115]⟩,.string ⟨#[112,97,99,107]⟩,.string ⟨#[117,110,112,97,99,107]⟩,.string ⟨#[111,110,101]⟩,.string ⟨#[108,111,97,100]⟩,.string ⟨#[104,97,115]⟩,.string ⟨#[115,97,118,101]⟩,.string ⟨#[119,105,112,101]⟩,.string ⟨#[110,101,120,116]⟩,.string ⟨#[101,109,105,116]⟩,.string ⟨#[97,98,111,114,116]⟩,.string ⟨#[105,102]⟩,.string ⟨#[101,108,115,101]⟩,.string ⟨#[101,110,100]⟩,.string ⟨#[108,111,111,112]⟩,.string ⟨#[108,101,97,118,101]⟩,.string ⟨#[99,97,108,108]⟩] 9)).cell? ⟨w.heap.size,k,none⟩=some (.string ⟨(nameTab.getD k []).toArray⟩):=by
 rw [cell_of_row _ _ k _ _ (0,0) (heap_alloc_new w _)]
 have e:(#[.string ⟨#[]⟩,.string ⟨#[105,110,116]⟩,.string ⟨#[99,111,110,115,116]⟩,.string ⟨#[116,114,117,101]⟩,.string ⟨#[102,97,108,115,101]⟩,.string ⟨#[100,114,111,112]⟩,.string ⟨#[100,117,112]⟩,.string ⟨#[115,119,97,112]⟩,.string ⟨#[111,118,101,114]⟩,.string ⟨#[103,101,116]⟩,.string ⟨#[115,101,116]⟩,.string ⟨#[97,100,100]⟩,.string ⟨#[115,117,98]⟩,.string ⟨#[109,117,108]⟩,.string ⟨#[100,105,118]⟩,.string ⟨#[114,101,109]⟩,.string ⟨#[110,101,103]⟩,.string ⟨#[97,110,100]⟩,.string ⟨#[111,114]⟩,.string ⟨#[120,111,114]⟩,.string ⟨#[105,110,118]⟩,.string ⟨#[115,104,108]⟩,.string ⟨#[115,104,114]⟩,.string ⟨#[101,113]⟩,.string ⟨#[110,101]⟩,.string ⟨#[108,116]⟩,.string ⟨#[108,101]⟩,.string ⟨#[103,116]⟩,.string ⟨#[103,101]⟩,.string ⟨#[98,111,116,104]⟩,.string ⟨#[101,105,116,104,101,114]⟩,.string ⟨#[110,111,116]⟩,.string ⟨#[108,101,110]⟩,.string ⟨#[106,111,105,110]⟩,.string ⟨#[99,117,116]⟩,.string ⟨#[97,116]⟩,.string ⟨#[115,97,109,101]⟩,.string ⟨#[108,101,115,115]⟩,.string ⟨#[112,97,99,107]⟩,.string ⟨#[117,110,112,97,99,107]⟩,.string ⟨#[111,110,101]⟩,.string ⟨#[108,111,97,100]⟩,.string ⟨#[104,97,115]⟩,.string ⟨#[115,97,118,101]⟩,.string ⟨#[119,105,112,101]⟩,.string ⟨#[110,101,120,116]⟩,.string ⟨#[101,109,105,116]⟩,.string ⟨#[97,98,111,114,116]⟩,.string ⟨#[105,102]⟩,.string ⟨#[101,108,115,101]⟩,.string ⟨#[101,110,100]⟩,.string ⟨#[108,111,111,112]⟩,.string ⟨#[108,101,97,118,101]⟩,.string ⟨#[99,97,108,108]⟩]:Array Value)=(nameTab.map fun x=>.string ⟨x.toArray⟩).toArray:=rfl
 rw [e]
 have hl:k<nameTab.length:=hk
 simp [List.getD,hl]
set_option maxHeartbeats 1000000 in
theorem rname4 (n:Int)(w:World):Calls Tryz.prog 108 #[.int .i64 n] w fun e w'=>e=.returned (.string ⟨(nameT n).toArray⟩)∧Below w.heap.size w w':=by
 by_cases h1:n<1
 ·rw [show nameT n=[] from rowOf_none _ _ n (.inl h1)]
  go_enter Tryz.func108,Tryz.ntmps108
  go_wp2
  go_ret
  exact ⟨rfl,(Below.refl _ w).alloc (Nat.le_refl _) _⟩
 by_cases h2:53<n
 ·rw [show nameT n=[] from rowOf_none _ _ n (.inr h2)]
  go_enter Tryz.func108,Tryz.ntmps108
  go_wp2
  go_ret
  exact ⟨rfl,(Below.refl _ w).alloc (Nat.le_refl _) _⟩
 obtain ⟨k,rfl⟩:∃ k:Nat,n=k:=⟨n.toNat,by omega⟩
 have hk:k<54:=by omega
 have hc:=cell_name4 w k hk
 rw [show nameT k=nameTab.getD k [] from by unfold nameT rowOf;rw [if_pos (by omega)];simp]
 generalize nameTab.getD k []=r at *
 go_enter Tryz.func108,Tryz.ntmps108
 go_wp2
 go_ret
 exact ⟨rfl,(Below.refl _ w).alloc (Nat.le_refl _) _⟩
set_option maxHeartbeats 1000000 in
theorem rtakes_of4 (n t:Int)(r:List UInt8)(w:World)(hN:Calls Tryz.prog 108 #[.int .i64 n] w fun e w'=>e=.returned (.string ⟨r.toArray⟩)∧Below w.heap.size w w')(hr:(r=[105,110,116]∧t=1)∨(r=[99,111,110,115,116]∧t=2)∨(r=[103,101,116]∧t=3)∨(r=[115,101,116]∧t=3)∨(r=[108,111,111,112]∧t=4)∨(r=[99,97,108,108]∧t=5)∨(t=0∧r≠[105,110,116]∧r≠[99,111,110,115,116]∧r≠[103,101,116]∧r≠[115,101,116]∧r≠[108,111,111,112]∧r≠[99,97,108,108])):Calls Tryz.prog 74 #[.int .i64 n] w fun e w'=>e=.returned (.int .i64 t)∧Below w.heap.size w w':=by
 rcases hr with ⟨rfl,rfl⟩ | ⟨rfl,rfl⟩ | ⟨rfl,rfl⟩ | ⟨rfl,rfl⟩ | ⟨rfl,rfl⟩ | ⟨rfl,rfl⟩ | ⟨rfl,h1,h2,h3,h4,h5,h6⟩
 iterate 6
  ·as_aux_lemma =>
   go_enter Tryz.func74,Tryz.ntmps74
   go_wp2_with (go_at_call 108;refine hN.mono ?_;rintro e w2 ⟨rfl,hb2⟩)
   go_ret
   exact ⟨rfl,hb2⟩
 ·rw [← beq_eq_false_iff_ne] at h1 h2 h3 h4 h5 h6
  go_enter Tryz.func74,Tryz.ntmps74
  go_wp2_with (go_at_call 108;refine hN.mono ?_;rintro e w2 ⟨rfl,hb2⟩)
  go_ret
  exact ⟨rfl,hb2⟩
theorem rtakes4 (n:Int)(w:World):Calls Tryz.prog 74 #[.int .i64 n] w fun e w'=>e=.returned (.int .i64 (takesT n))∧Below w.heap.size w w':=by
 refine rtakes_of4 n _ _ w (rname4 n w) ?_
 by_cases h:n<1∨53<n
 ·rw [show takesT n=0 from rowOf_none _ _ n h,show nameT n=[] from rowOf_none _ _ n h]
  simp
 ·obtain ⟨k,rfl⟩:∃ k:Nat,n=k:=⟨n.toNat,by omega⟩
  have hk:k<54:=by omega
  have ht:takesT k=takesTab.getD k 0:=by unfold takesT rowOf;rw [if_pos (by omega)];simp
  have hm:nameT k=nameTab.getD k []:=by unfold nameT rowOf;rw [if_pos (by omega)];simp
  rw [ht,hm]
  have H:∀ k:Fin 54,k.1=0∨((nameTab.getD k.1 []=[105,110,116]∧takesTab.getD k.1 0=1)∨(nameTab.getD k.1 []=[99,111,110,115,116]∧takesTab.getD k.1 0=2)∨(nameTab.getD k.1 []=[103,101,116]∧takesTab.getD k.1 0=3)∨(nameTab.getD k.1 []=[115,101,116]∧takesTab.getD k.1 0=3)∨(nameTab.getD k.1 []=[108,111,111,112]∧takesTab.getD k.1 0=4)∨(nameTab.getD k.1 []=[99,97,108,108]∧takesTab.getD k.1 0=5)∨(takesTab.getD k.1 0=0∧nameTab.getD k.1 []≠[105,110,116]∧nameTab.getD k.1 []≠[99,111,110,115,116]∧nameTab.getD k.1 []≠[103,101,116]∧nameTab.getD k.1 []≠[115,101,116]∧nameTab.getD k.1 []≠[108,111,111,112]∧nameTab.getD k.1 []≠[99,97,108,108])):=by decide +kernel
  rcases H ⟨k,hk⟩ with h0 | h0
  ·simp only at h0;omega
  ·exact h0
theorem takes_same (n:Int):takesT n=takesN n:=by
 unfold takesT rowOf
 by_cases h:1≤n∧n≤53
 ·rw [if_pos h]
  have H:∀ k:Fin 54,takesTab.getD k.1 0=takesN (k.1:Int):=by decide +kernel
  have:=H ⟨n.toNat,by omega⟩
  simp only at this
  rw [this,show ((n.toNat:Nat):Int)=n by omega]
 ·rw [if_neg h]
  unfold takesN
  rw [if_neg (by omega),if_neg (by omega),if_neg (by omega),if_neg (by omega),if_neg (by omega),if_neg (by omega)]
def inS7:List (List UInt8):=[[],[],[],[],[],[48],[48],[48,48],[48,48],[],[48],[49,49],[49,49],[49,49],[49,49],[49,49],[49],[49,49],[49,49],[49,49],[49],[49,49],[49,49],[49,49],[49,49],[49,49],[49,49],[49,49],[49,49],[51,51],[51,51],[51],[50],[50,50],[50,49,49],[50,49],[50,50],[50,50],[49],[50],[49],[50],[50],[50,50],[50],[50],[50],[],[51],[],[],[],[51],[]]
def outS7:List (List UInt8):=[[],[49],[50],[51],[51],[],[48,48],[48,48],[48,48,48],[48],[],[49],[49],[49],[49],[49],[49],[49],[49],[49],[49],[49],[49],[51],[51],[51],[51],[51],[51],[51],[51],[51],[49],[50],[50],[49],[51],[51],[50],[49],[50],[50,51],[51],[],[],[50,51],[],[],[],[],[],[],[],[]]
theorem cell_in7 (w:World)(k:Nat)(hk:k<54):(w.alloc (.cells #[.string ⟨#[]⟩,.string ⟨#[]⟩,.string ⟨#[]⟩,.string ⟨#[]⟩,.string ⟨#[]⟩,.string ⟨#[48]⟩,.string ⟨#[48]⟩,.string ⟨#[48,48]⟩,.string ⟨#[48,48]⟩,.string ⟨#[]⟩,.string ⟨#[48]⟩,.string ⟨#[49,49]⟩,.string ⟨#[49,49]⟩,.string ⟨#[49,49]⟩,.string ⟨#[49,49]⟩,.string ⟨#[49,49]⟩,.string ⟨#[49]⟩,.string ⟨#[49,49]⟩,.string ⟨#[49,49]⟩,.string ⟨#[49,49]⟩,.string ⟨#[49]⟩,.string ⟨#[49,49]⟩,.string ⟨#[49,49]⟩,.string ⟨#[49,49]⟩,.string ⟨#[49,49]⟩,.string ⟨#[49,49]⟩,.string ⟨#[49,49]⟩,.string ⟨#[49,49]⟩,.string ⟨#[49,49]⟩,.string ⟨#[51,51]⟩,.string ⟨#[51,51]⟩,.string ⟨#[51]⟩,.string ⟨#[50]⟩,.string ⟨#[50,50]⟩,.string ⟨#[50,49,49]⟩,.string ⟨#[50,49]⟩,.string ⟨#[50,50]⟩,.string ⟨#[50,50]⟩,.string ⟨#[49]⟩,.string ⟨#[50]⟩,.string ⟨#[49]⟩,.string ⟨#[50]⟩,.string ⟨#[50]⟩,.string ⟨#[50,50]⟩,.string ⟨#[50]⟩,.string ⟨#[50]⟩,.string ⟨#[50]⟩,.string ⟨#[]⟩,.string ⟨#[51]⟩,.string ⟨#[]⟩,.string ⟨#[]⟩,.string ⟨#[]⟩,.string ⟨#[51]⟩,.string ⟨#[]⟩] 9)).cell? ⟨w.heap.size,k,none⟩=some (.string ⟨(inS7.getD k []).toArray⟩):=by
 rw [cell_of_row _ _ k _ _ (0,0) (heap_alloc_new w _)]
 have e:(#[.string ⟨#[]⟩,.string ⟨#[]⟩,.string ⟨#[]⟩,.string ⟨#[]⟩,.string ⟨#[]⟩,.string ⟨#[48]⟩,.string ⟨#[48]⟩,.string ⟨#[48,48]⟩,.string ⟨#[48,48]⟩,.string ⟨#[]⟩,.string ⟨#[48]⟩,.string ⟨#[49,49]⟩,.string ⟨#[49,49]⟩,.string ⟨#[49,49]⟩,.string ⟨#[49,49]⟩,.string ⟨#[49,49]⟩,.string ⟨#[49]⟩,.string ⟨#[49,49]⟩,.string ⟨#[49,49]⟩,.string ⟨#[49,49]⟩,.string ⟨#[49]⟩,.string ⟨#[49,49]⟩,.string ⟨#[49,49]⟩,.string ⟨#[49,49]⟩,.string ⟨#[49,49]⟩,.string ⟨#[49,49]⟩,.string ⟨#[49,49]⟩,.string ⟨#[49,49]⟩,.string ⟨#[49,49]⟩,.string ⟨#[51,51]⟩,.string ⟨#[51,51]⟩,.string ⟨#[51]⟩,.string ⟨#[50]⟩,.string ⟨#[50,50]⟩,.string ⟨#[50,49,49]⟩,.string ⟨#[50,49]⟩,.string ⟨#[50,50]⟩,.string ⟨#[50,50]⟩,.string ⟨#[49]⟩,.string ⟨#[50]⟩,.string ⟨#[49]⟩,.string ⟨#[50]⟩,.string ⟨#[50]⟩,.string ⟨#[50,50]⟩,.string ⟨#[50]⟩,.string ⟨#[50]⟩,.string ⟨#[50]⟩,.string ⟨#[]⟩,.string ⟨#[51]⟩,.string ⟨#[]⟩,.string ⟨#[]⟩,.string ⟨#[]⟩,.string ⟨#[51]⟩,.string ⟨#[]⟩]:Array Value)=(inS7.map fun x=>.string ⟨x.toArray⟩).toArray:=rfl
 rw [e]
 have hl:k<inS7.length:=hk
 simp [List.getD,hl]
theorem cell_out7 (w:World)(k:Nat)(hk:k<54):(w.alloc (.cells #[.string ⟨#[]⟩,.string ⟨#[49]⟩,.string ⟨#[50]⟩,.string ⟨#[51]⟩,.string ⟨#[51]⟩,.string ⟨#[]⟩,.string ⟨#[48,48]⟩,.string ⟨#[48,48]⟩,.string ⟨#[48,48,48]⟩,.string ⟨#[48]⟩,.string ⟨#[]⟩,.string ⟨#[49]⟩,.string ⟨#[49]⟩,.string ⟨#[49]⟩,.string ⟨#[49]⟩,.string ⟨#[49]⟩,.string ⟨#[49]⟩,.string ⟨#[49]⟩,.string ⟨#[49]⟩,.string ⟨#[49]⟩,.string ⟨#[49]⟩,.string ⟨#[49]⟩,.string ⟨#[49]⟩,.string ⟨#[51]⟩,.string ⟨#[51]⟩,.string ⟨#[51]⟩,.string ⟨#[51]⟩,.string ⟨#[51]⟩,.string ⟨#[51]⟩,.string ⟨#[51]⟩,.string ⟨#[51]⟩,.string ⟨#[51]⟩,.string ⟨#[49]⟩,.string ⟨#[50]⟩,.string ⟨#[50]⟩,.string ⟨#[49]⟩,.string ⟨#[51]⟩,.string ⟨#[51]⟩,.string ⟨#[50]⟩,.string ⟨#[49]⟩,.string ⟨#[50]⟩,.string ⟨#[50,51]⟩,.string ⟨#[51]⟩,.string ⟨#[]⟩,.string ⟨#[]⟩,.string ⟨#[50,51]⟩,.string ⟨#[]⟩,.string ⟨#[]⟩,.string ⟨#[]⟩,.string ⟨#[]⟩,.string ⟨#[]⟩,.string ⟨#[]⟩,.string ⟨#[]⟩,.string ⟨#[]⟩] 9)).cell? ⟨w.heap.size,k,none⟩=some (.string ⟨(outS7.getD k []).toArray⟩):=by
 rw [cell_of_row _ _ k _ _ (0,0) (heap_alloc_new w _)]
 have e:(#[.string ⟨#[]⟩,.string ⟨#[49]⟩,.string ⟨#[50]⟩,.string ⟨#[51]⟩,.string ⟨#[51]⟩,.string ⟨#[]⟩,.string ⟨#[48,48]⟩,.string ⟨#[48,48]⟩,.string ⟨#[48,48,48]⟩,.string ⟨#[48]⟩,.string ⟨#[]⟩,.string ⟨#[49]⟩,.string ⟨#[49]⟩,.string ⟨#[49]⟩,.string ⟨#[49]⟩,.string ⟨#[49]⟩,.string ⟨#[49]⟩,.string ⟨#[49]⟩,.string ⟨#[49]⟩,.string ⟨#[49]⟩,.string ⟨#[49]⟩,.string ⟨#[49]⟩,.string ⟨#[49]⟩,.string ⟨#[51]⟩,.string ⟨#[51]⟩,.string ⟨#[51]⟩,.string ⟨#[51]⟩,.string ⟨#[51]⟩,.string ⟨#[51]⟩,.string ⟨#[51]⟩,.string ⟨#[51]⟩,.string ⟨#[51]⟩,.string ⟨#[49]⟩,.string ⟨#[50]⟩,.string ⟨#[50]⟩,.string ⟨#[49]⟩,.string ⟨#[51]⟩,.string ⟨#[51]⟩,.string ⟨#[50]⟩,.string ⟨#[49]⟩,.string ⟨#[50]⟩,.string ⟨#[50,51]⟩,.string ⟨#[51]⟩,.string ⟨#[]⟩,.string ⟨#[]⟩,.string ⟨#[50,51]⟩,.string ⟨#[]⟩,.string ⟨#[]⟩,.string ⟨#[]⟩,.string ⟨#[]⟩,.string ⟨#[]⟩,.string ⟨#[]⟩,.string ⟨#[]⟩,.string ⟨#[]⟩]:Array Value)=(outS7.map fun x=>.string ⟨x.toArray⟩).toArray:=rfl
 rw [e]
 have hl:k<outS7.length:=hk
 simp [List.getD,hl]
set_option maxRecDepth 100000 in
set_option maxHeartbeats 1000000 in
theorem list_any7 (s:List UInt8)(w:World)(hs:s.length≤10):Calls Tryz.prog 162 #[.string ⟨s.toArray⟩] w fun e w'=>∃ a c,e=.returned (.slice a s.length c)∧NsAt w'.cell? a (s.map fun x=>((x.toNat:Int) - 48) % 256)∧Below w.heap.size w w':=by
 obtain ⟨L,hL⟩:∃ L:Nat→List Int,L=fun k=>(s.take k).map fun x=>((x.toNat:Int) - 48) % 256:=⟨_,rfl⟩
 go_enter Tryz.func162,Tryz.ntmps162
 go_wp2
 go_loopw [3,4] (fun v i wr=>∃ k:Nat,k≤s.length∧i=.int .i64 k∧Hid ((L k).length=k)∧wr.ownsRow w.heap.size 3 1 v (L k).length (cellsN (L k))∧Below w.heap.size w wr) (fun _ i _=>s.length - (intOf i).toNat)
 case atStart=>exact ⟨0,Nat.zero_le _,rfl,hid7 (by rw [hL];rfl),by rw [hL];exact World.ownsRow_nil _ _ _ _,Below.refl _ _⟩
 case round =>
  obtain ⟨k,hk,rfl,hlk,hown,hb⟩:=hrel
  have hr:=hid7 hown
  obtain ⟨ra,rc,e0,_⟩:=row_form hown
  subst e0
  clear hown
  by_cases hlt:k<s.length
  ·have e0:(⟨s.toArray⟩:ByteArray)[k]'(by show k<s.toArray.size;simpa using hlt)=s[k]:=by simp [ByteArray.getElem_eq_getElem_data]
   have HS:Hid (L (k+1)=L k++[((s[k].toNat:Int) - 48) % 256]):=hid7 (by rw [hL];simp only;rw [List.take_succ_eq_append_getElem hlt,List.map_append];rfl)
   generalize s[k]=x at *
   have hx0:0≤((x.toNat:Int) - 48) % 256:=by omega
   have hx1:((x.toNat:Int) - 48) % 256≤255:=by omega
   have hbs:=hb.size
   have r1:=hid7 (World.ownsRow.alloc hr.out (.cells #[.int .i64 (((x.toNat:Int) - 48) % 256)] 3))
   have b1:=hid7 (hb.alloc hb.size (.cells #[.int .i64 (((x.toNat:Int) - 48) % 256)] 3))
   have hl10:(L k).length≤10:=by rw [hlk.out];omega
   have HLK:=hid7 hlk.out
   clear hlk hL
   go_wp2_with (at_builtin;refine wpList_appN _ rfl _ _ 28 rfl elemN_int w.heap.size _ (L k).length (cellsN (L k)) rfl r1.out _ rfl 1 [.int .i64 (((x.toNat:Int) - 48) % 256)] (.inr ⟨⟨_,0,none⟩,1,rfl,cells_new6 _ [.int .i64 (((x.toNat:Int) - 48) % 256)] 3 _ rfl⟩) rfl (by simp [Value.oneCell']) (by unfold maxLen;omega) (by omega) (by simp;omega) ?_;intro v' w6 hr6 hs6)
   refine ⟨⟨k+1,by omega,by go_num,hid7 (by rw [HS.out,List.length_append,HLK.out];rfl),?_,b1.out.trans (hs6.below (by simp;omega) fun g e=>(r1.out.lt g e).1)⟩,by simp [intOf];omega⟩
   rw [HS.out,List.length_append,show cellsN (L k++[((x.toNat:Int) - 48) % 256])=cellsN (L k)++[.int .i64 (((x.toNat:Int) - 48) % 256)] by simp [cellsN]]
   exact hr6
  ·have hke:k=s.length:=by omega
   have HE:Hid (L k=s.map fun x=>((x.toNat:Int) - 48) % 256):=hid7 (by rw [hL];simp only;rw [hke,List.take_length])
   have hll:=hid7 (hlk.out.trans hke)
   clear hL hlk
   generalize hlen:(L k).length=ll at hr hll
   have HL2:=hid7 hlen
   clear hlen
   go_wp2
   go_ret
   refine ⟨ra,rc,by rw [← hll.out];rfl,?_,hb⟩
   have h2:=hr.out
   rw [← HE.out]
   exact NsIn.at' (ns_in_row h2)
theorem in_digits7:∀ k:Fin 54,(inS7.getD k.1 []).length≤10∧(inS7.getD k.1 []).map (fun x=>((x.toNat:Int) - 48) % 256)=inTab.getD k.1 []:=by decide +kernel
theorem out_digits7:∀ k:Fin 54,(outS7.getD k.1 []).length≤10∧(outS7.getD k.1 []).map (fun x=>((x.toNat:Int) - 48) % 256)=outTab.getD k.1 []:=by decide +kernel
set_option maxRecDepth 100000 in
set_option maxHeartbeats 1000000 in
theorem rin_no7 (n:Int)(w:World)(h:n<1∨53<n):Calls Tryz.prog 127 #[.int .i64 n] w fun e w'=>e=.returned (.slice none 0 0)∧Below w.heap.size w w':=by
 rcases h with h | h
 all_goals
  go_enter Tryz.func127,Tryz.ntmps127
  go_wp2
  go_ret
  exact ⟨rfl,(Below.refl _ w).alloc (Nat.le_refl _) _⟩
set_option maxRecDepth 100000 in
set_option maxHeartbeats 1000000 in
theorem rin_any7 (n:Int)(w:World):Calls Tryz.prog 127 #[.int .i64 n] w fun e w'=>∃ a c,e=.returned (.slice a (inT n).length c)∧NsAt w'.cell? a (inT n)∧Below w.heap.size w w':=by
 by_cases h:n<1∨53<n
 ·refine (rin_no7 n w h).mono ?_
  rintro e w' ⟨rfl,hb⟩
  rw [show inT n=[] from rowOf_none _ _ n h]
  exact ⟨none,0,rfl,.inl rfl,hb⟩
 obtain ⟨k,rfl⟩:∃ k:Nat,n=k:=⟨n.toNat,by omega⟩
 have hk:k<54:=by omega
 have hc:=cell_in7 w k hk
 obtain ⟨d1,d2⟩:=in_digits7 ⟨k,hk⟩
 simp only at d1 d2
 rw [show inT k=inTab.getD k [] from by unfold inT rowOf;rw [if_pos (by omega)];simp]
 have hL:=fun W=>list_any7 (inS7.getD k []) W d1
 have hlen:(inS7.getD k []).length=(inTab.getD k []).length:=by rw [← d2,List.length_map]
 rw [d2,hlen] at hL
 generalize inTab.getD k []=T at *
 generalize inS7.getD k []=r at *
 clear d1 d2 hlen
 go_enter Tryz.func127,Tryz.ntmps127
 go_wp2_with (go_at_call 162;refine (hL _).mono ?_;rintro e w2 ⟨a2,c2,rfl,hi2,hb2⟩)
 go_ret
 exact ⟨_,_,rfl,hi2,((Below.refl _ w).alloc (Nat.le_refl _) _).trans (hb2.mono (by simp))⟩
set_option maxRecDepth 100000 in
set_option maxHeartbeats 1000000 in
theorem rout_no7 (n:Int)(w:World)(h:n<1∨53<n):Calls Tryz.prog 128 #[.int .i64 n] w fun e w'=>e=.returned (.slice none 0 0)∧Below w.heap.size w w':=by
 rcases h with h | h
 all_goals
  go_enter Tryz.func128,Tryz.ntmps128
  go_wp2
  go_ret
  exact ⟨rfl,(Below.refl _ w).alloc (Nat.le_refl _) _⟩
set_option maxRecDepth 100000 in
set_option maxHeartbeats 1000000 in
theorem rout_any7 (n:Int)(w:World):Calls Tryz.prog 128 #[.int .i64 n] w fun e w'=>∃ a c,e=.returned (.slice a (outT n).length c)∧NsAt w'.cell? a (outT n)∧Below w.heap.size w w':=by
 by_cases h:n<1∨53<n
 ·refine (rout_no7 n w h).mono ?_
  rintro e w' ⟨rfl,hb⟩
  rw [show outT n=[] from rowOf_none _ _ n h]
  exact ⟨none,0,rfl,.inl rfl,hb⟩
 obtain ⟨k,rfl⟩:∃ k:Nat,n=k:=⟨n.toNat,by omega⟩
 have hk:k<54:=by omega
 have hc:=cell_out7 w k hk
 obtain ⟨d1,d2⟩:=out_digits7 ⟨k,hk⟩
 simp only at d1 d2
 rw [show outT k=outTab.getD k [] from by unfold outT rowOf;rw [if_pos (by omega)];simp]
 have hL:=fun W=>list_any7 (outS7.getD k []) W d1
 have hlen:(outS7.getD k []).length=(outTab.getD k []).length:=by rw [← d2,List.length_map]
 rw [d2,hlen] at hL
 generalize outTab.getD k []=T at *
 generalize outS7.getD k []=r at *
 clear d1 d2 hlen
 go_enter Tryz.func128,Tryz.ntmps128
 go_wp2_with (go_at_call 162;refine (hL _).mono ?_;rintro e w2 ⟨a2,c2,rfl,hi2,hb2⟩)
 go_ret
 exact ⟨_,_,rfl,hi2,((Below.refl _ w).alloc (Nat.le_refl _) _).trans (hb2.mono (by simp))⟩
end Go.Proofs.YtpmlnkjamhelnaaGreat
namespace Go.Proofs.YtpmlnkjamhelnaaGreat
open Go.RowKit Go.Shelf
set_option maxRecDepth 100000 in
set_option maxHeartbeats 1000000 in
theorem ralike_any (a b:Option Addr)(c d n m:Nat)(ns ms:List Int)(hn:ns.length=n)(hm:ms.length=m)(bn:n≤17592186044416)(w:World)(ha:NsAt w.cell? a ns)(hb:NsAt w.cell? b ms) :
  Calls Tryz.prog 92 #[.slice a n c,.slice b m d] w fun e w'=>e=.returned (.int .i64 (alikeS ns ms))∧∃ k,w'=w.drewN k:=by
 by_cases hnm:n=m
 ·subst hnm
  go_enter Tryz.func92,Tryz.ntmps92
  go_wp2
  go_loopw [5] (fun i wr=>∃ k t:Nat,k≤n∧i=.int .i64 k∧Hid (∀ j (h1:j<ns.length) (h2:j<ms.length),j<k→ns[j]=ms[j])∧wr=w.drewN t) (fun i _=>n - (intOf i).toNat)
  case atStart=>exact ⟨0,0,Nat.zero_le _,rfl,hid7 (by omega),rfl⟩
  case round =>
   obtain ⟨k,t,hk,rfl,hr,rfl⟩:=hrel
   by_cases hlt:k<n
   ·rcases ha with h0 | ⟨b0,off0,rfl,hc0⟩
    ·subst h0;simp at hn;omega
    rcases hb with h0 | ⟨b1,off1,rfl,hc1⟩
    ·subst h0;simp at hm;omega
    have c0:=hc0 k (by omega)
    have d0:=hc1 k (by omega)
    have HN:Hid (ns[k]≠ms[k]→alikeS ns ms=33):=hid7 fun h=>by
     rw [alikeS,if_pos (by omega),if_neg (fun e=>h (by subst e;rfl))]
    have HT:Hid (ns[k]=ms[k]→∀ j (h1:j<ns.length) (h2:j<ms.length),j<k+1→ns[j]=ms[j]):=hid7 fun h j h1 h2 hjk=>by
     rcases Nat.lt_or_ge j k with h3 | h3
     ·exact hr.out j h1 h2 h3
     ·obtain rfl:j=k:=by omega
      exact h
    generalize ns[k]=x at c0 HN HT
    generalize ms[k]=y at d0 HN HT
    clear hc0 hc1 hr
    by_cases h1:x=y
    ·subst h1
     have HT2:=hid7 (HT.out rfl)
     go_wp2
     go_quiet (fail)
     go_wp2
     exact ⟨⟨k+1,_,by omega,by go_num,HT2,rfl⟩,by simp [intOf];omega⟩
    ·have q:(x != y)=true:=by simp [h1]
     have HN2:=hid7 (HN.out h1)
     go_wp2
     go_quiet (fail)
     go_wp2
     go_ret
     exact ⟨by rw [HN2.out];rfl,t+nq,World.drewN_drewN _ _ _⟩
   ·have HE:Hid (alikeS ns ms=0):=hid7 (by rw [alikeS,if_pos (by omega),if_pos (List.ext_getElem (by omega) fun j h1 h2=>hr.out j h1 h2 (by omega))])
    clear hr
    go_wp2
    go_ret
    exact ⟨by rw [HE.out];rfl,t,rfl⟩
 ·have hne:((n:Int) != (m:Int))=true:=by simp;omega
  have HA:Hid (alikeS ns ms=32):=hid7 (by rw [alikeS,if_neg (by omega)])
  go_enter Tryz.func92,Tryz.ntmps92
  go_wp2
  go_ret
  exact ⟨by rw [HA.out];rfl,0,rfl⟩
theorem ns_take7 {C:Addr→Option Value}{a:Option Addr}{p:List Int}(h:NsAt C a p)(l:Nat):NsAt C a (p.take l):=by
 rcases h with rfl | ⟨b,off,e,h⟩
 ·exact .inl (by simp)
 ·exact .inr ⟨b,off,e,fun j hj=>by
   rw [List.length_take] at hj
   rw [h j (by omega),List.getElem_take]⟩
def RTakeEnd (st ts:List Int)(w:World)(e:Ending)(w':World):Prop :=
 ∃ a c n,e=.returned (.tuple #[.slice a n c,.int .i64 (takeS st ts).1])∧((takeS st ts).1=0→n=(takeS st ts).2∧n≤c∧w'.ownsRow w.heap.size 3 1 (.slice a n c) n (cellsN (st.take (takeS st ts).2)))∧Below w.heap.size w w'
set_option maxRecDepth 100000 in
set_option maxHeartbeats 1000000 in
theorem rtake_any (a b:Option Addr)(c d n m:Nat)(st ts:List Int)(hn:st.length=n)(hm:ts.length=m)(bn:n≤1000000)(bm:m≤1000000)(hcn:n≤c)(w:World)(ha:NsAt w.cell? a st)(hb:NsAt w.cell? b ts) :
  Calls Tryz.prog 130 #[.slice a n c,.slice b m d] w (RTakeEnd st ts w):=by
 unfold RTakeEnd
 obtain ⟨A0,hA0⟩:∃ A0,A0=takeS st ts:=⟨_,rfl⟩
 rw [← hA0]
 have HA:Hid (A0=tkS st (ts.take m).reverse n):=hid7 (by rw [hA0,takeS,hn,← hm,List.take_length])
 have HN:=hid7 (And.intro ha hb)
 clear hA0 ha hb
 go_enter Tryz.func130,Tryz.ntmps130
 go_wp2
 go_loopw [0,6] (fun lv iv wr=>∃ q k t:Nat,lv=.slice a q c∧iv=.int .i64 ((k:Int) - 1)∧k≤m∧q≤n∧Hid (A0=tkS st (ts.take k).reverse q)∧wr=w.drewN t) (fun _ iv _=>(intOf iv+1).toNat)
 case atStart=>exact ⟨n,m,0,rfl,by go_num,Nat.le_refl _,Nat.le_refl _,HA,rfl⟩
 case round =>
  obtain ⟨q,k,t,rfl,rfl,hk,hq,hrun,rfl⟩:=hrel
  cases k with
  | zero =>
   have HE:Hid (A0=(0,q)):=hid7 (by have:=hrun.out;simpa [tkS] using this)
   have bD:Below w.heap.size w (w.drewN t):=below_draws2 (Below.refl _ w) t
   have b1:=bD.alloc bD.size (.cells #[] 3)
   have hl:=(ns_take7 (HN.out.1.keep (C':=((w.drewN t).alloc (.cells #[] 3)).cell?) fun x v h=>(b1.cell (World.block_lt_of_cell? w x h)).trans h) q).lies c
   rw [List.length_take,Nat.min_eq_left (by omega)] at hl
   have hlen:(cellsN (st.take q)).length=q*1:=by rw [cellsN_len,List.length_take];omega
   have HO:Hid (∀ u ∈ cellsN (st.take q),u.oneCell'=true):=hid7 (cellsN_one _)
   have HX:Hid (((w.drewN t).alloc (.cells #[] 3)).ownsRow w.heap.size 3 1 (.slice (some ⟨(w.drewN t).heap.size,0,none⟩) 0 0) 0 []):=hid7 (World.ownsRow_made (w.drewN t) #[] 0 (Nat.le_refl _) (by unfold maxLen;omega) (by simp))
   have HB1:=hid7 b1
   have HEn:Hid (∀ w6 va vc,w6.ownsRow w.heap.size 3 1 (.slice va q vc) q (cellsN (st.take q))→q≤vc→Below w.heap.size w w6→∀ e:Ending,e=.returned (.tuple #[.slice va q vc,.int .i64 0])→∃ a c n,e=.returned (.tuple #[.slice a n c,.int .i64 A0.1])∧(A0.1=0→n=A0.2∧n≤c∧w6.ownsRow w.heap.size 3 1 (.slice a n c) n (cellsN (st.take A0.2)))∧Below w.heap.size w w6):=hid7 fun w6 va vc h1 h2 h3 e he=>by
    rw [HE.out]
    exact ⟨va,vc,q,he,fun _=>⟨rfl,h2,h1⟩,h3⟩
   generalize cellsN (st.take q)=xs at hl hlen HO HEn
   clear bD b1 hrun
   go_wp2_with (at_builtin;refine wpList_appN _ rfl _ _ 28 rfl elemN_int w.heap.size _ 0 [] rfl HX.out _ rfl q xs hl hlen HO.out (by unfold maxLen;omega) (by omega) (by simp) ?_;intro v' w6 hr6 hs6;obtain ⟨va,vc,y6,hvc,_⟩:=row_form hr6;subst y6;rw [Nat.zero_add,List.nil_append] at hr6;rw [Nat.zero_add] at hvc;rw [Nat.zero_add];have K6:=hid7 (And.intro hr6 hs6);clear hr6 hs6)
   go_ret2
   exact HEn.out _ va vc K6.out.1 hvc (HB1.out.trans (K6.out.2.below HB1.out.size fun g e=>(HX.out.lt g e).1)) _ rfl
  | succ k =>
   have htk:(ts.take (k+1)).reverse=ts.getD k 0 :: (ts.take k).reverse:=by
    rw [List.take_succ_eq_append_getElem (by omega),List.reverse_append,List.getD_eq_getElem?_getD,List.getElem?_eq_getElem (by omega)]
    rfl
   obtain ⟨tb,tf,rfl⟩:=ns_some HN.out.2 (by omega)
   have c1:=ns_at HN.out.2 k (by omega)
   have e1:((k+1:Nat):Int) - 1=k:=by omega
   rw [e1]
   have hrun2:A0=if q=0 then (32,0) else if ts.getD k 0≠0∧ts.getD k 0≠st.getD (q - 1) 0 then (33,0) else tkS st (ts.take k).reverse (q - 1):=by
    have:=hrun.out
    rw [htk,tkS] at this
    exact this
   have HErr:Hid (∀ er:Int,A0=(er,0)→er≠0→∀ W,Below w.heap.size w W→∀ e:Ending,e=.returned (.tuple #[.slice none 0 0,.int .i64 er])→∃ a c n,e=.returned (.tuple #[.slice a n c,.int .i64 A0.1])∧(A0.1=0→n=A0.2∧n≤c∧W.ownsRow w.heap.size 3 1 (.slice a n c) n (cellsN (st.take A0.2)))∧Below w.heap.size w W):=hid7 fun er h1 h2 W hW e he=>by
    rw [h1]
    exact ⟨none,0,0,he,fun h=>absurd h h2,hW⟩
   by_cases hq0:q=0
   ·subst hq0
    have HE:=hid7 (hrun2.trans (if_pos rfl))
    clear hrun hrun2 htk
    go_wp2
    go_ret2
    exact HErr.out 32 HE.out (by decide) _ (below_draws2 (Below.refl _ w) t) _ rfl
   ·obtain ⟨ab,ao,rfl⟩:=ns_some HN.out.1 (by omega)
    have s0:=ns_at HN.out.1 (q - 1) (by omega)
    rw [if_neg hq0] at hrun2
    obtain ⟨q',rfl⟩:∃ q',q=q'+1:=⟨q - 1,by omega⟩
    rw [Nat.add_sub_cancel] at s0 hrun2
    generalize ts.getD k 0=y at c1 hrun2
    generalize st.getD q' 0=u at s0 hrun2
    have HR2:=hid7 hrun2
    clear hrun hrun2 htk
    by_cases hy:y=0
    ·subst hy
     have HE:=hid7 (HR2.out.trans (if_neg (by simp)))
     go_wp2
     go_quiet (fail)
     go_wp2
     exact ⟨⟨q',k,_,by go_num,by go_num,by omega,by omega,HE,rfl⟩,by simp [intOf]⟩
    ·have t1:(y != 0)=true:=by simpa using hy
     by_cases hyu:y=u
     ·subst hyu
      have HE:=hid7 (HR2.out.trans (if_neg (by simp)))
      go_wp2
      go_quiet (fail)
      go_wp2
      exact ⟨⟨q',k,_,by go_num,by go_num,by omega,by omega,HE,rfl⟩,by simp [intOf]⟩
     ·have t2:(y != u)=true:=by simpa using hyu
      have HE:=hid7 (HR2.out.trans (if_pos ⟨hy,hyu⟩))
      go_wp2
      go_quiet (fail)
      go_wp2
      go_ret2
      exact HErr.out 33 HE.out (by decide) _ (below_draws2 (below_draws2 (Below.refl _ w) t) _) _ rfl
def RStepEnd (R:Int × List Int)(w:World)(e:Ending)(w':World):Prop :=
 ∃ a n c,e=.returned (.tuple #[.slice a n c,.int .i64 R.1])∧(R.1=0→n=R.2.length∧n≤c∧w'.ownsRow w.heap.size 3 1 (.slice a n c) n (cellsN R.2))∧Below w.heap.size w w'
theorem tkS_le (st:List Int):∀ (ts:List Int) (q:Nat),(tkS st ts q).2≤q
 | [],q=>by simp [tkS]
 | t :: ts,q=>by
  rw [tkS]
  split
  ·exact Nat.zero_le _
  split
  ·exact Nat.zero_le _
  ·exact Nat.le_trans (tkS_le st ts (q - 1)) (by omega)
theorem takeS_le (st ts:List Int):(takeS st ts).2≤st.length:=tkS_le st _ _
structure Bx7 (V0 V1 w0 w1 w2 w3:Value)(n A:Int)(w W:World):Prop where
 b:Below w.heap.size w W
 s:W.heap[w.heap.size]?=some (.cells #[V0,V1] 27 (0,0))
 f:W.heap[w.heap.size+1]?=some (.cells #[w0,w1,w2,w3] 49 (0,0))
 x:W.heap[w.heap.size+1+1]?=some (.cells #[.int .i64 n,.int .i64 A] 74 (0,0))
theorem Bx7.below {V0 V1 w0 w1 w2 w3:Value}{n A:Int}{w W W':World}(h:Bx7 V0 V1 w0 w1 w2 w3 n A w W)(hb:Below W.heap.size W W'):Bx7 V0 V1 w0 w1 w2 w3 n A w W' :=
 ⟨h.b.trans (hb.mono h.b.size),(hb.block _ (blk_lt h.s)).trans h.s,(hb.block _ (blk_lt h.f)).trans h.f,(hb.block _ (blk_lt h.x)).trans h.x⟩
theorem bx7_new (V0 V1 w0 w1 w2 w3:Value)(n A:Int)(w:World):Bx7 V0 V1 w0 w1 w2 w3 n A w (((w.alloc (.cells #[V0,V1] 27)).alloc (.cells #[w0,w1,w2,w3] 49)).alloc (.cells #[.int .i64 n,.int .i64 A] 74)):=by
 refine ⟨(((Below.refl _ w).alloc (Nat.le_refl _) _).alloc (by simp) _).alloc (by simp;omega) _,?_,?_,?_⟩
 ·rw [Below.heap_alloc _ _ _ (by simp;omega),Below.heap_alloc _ _ _ (by simp)]
  exact heap_alloc_new w _
 ·rw [Below.heap_alloc _ _ _ (by simp)]
  have:=heap_alloc_new (w.alloc (.cells #[V0,V1] 27)) (.cells #[w0,w1,w2,w3] 49)
  simpa using this
 ·have:=heap_alloc_new ((w.alloc (.cells #[V0,V1] 27)).alloc (.cells #[w0,w1,w2,w3] 49)) (.cells #[.int .i64 n,.int .i64 A] 74)
  simpa using this
theorem Bx7.xc {V0 V1 w0 w1 w2 w3:Value}{n A:Int}{w W:World}(h:Bx7 V0 V1 w0 w1 w2 w3 n A w W):W.cell? ⟨w.heap.size+1+1,0,none⟩=some (.int .i64 n)∧W.cell? ⟨w.heap.size+1+1,1,none⟩=some (.int .i64 A):=by
 rw [Lib.cell_of_heap h.x,Lib.cell_of_heap h.x]
 exact ⟨rfl,rfl⟩
theorem Bx7.fc {V0 V1 w0 w1 w2 w3:Value}{n A:Int}{w W:World}(h:Bx7 V0 V1 w0 w1 w2 w3 n A w W):W.cell? ⟨w.heap.size+1,0,none⟩=some w0∧W.cell? ⟨w.heap.size+1,1,none⟩=some w1∧W.cell? ⟨w.heap.size+1,2,none⟩=some w2∧W.cell? ⟨w.heap.size+1,3,none⟩=some w3:=by
 refine ⟨?_,?_,?_,?_⟩ <;> rw [Lib.cell_of_heap h.f] <;> rfl
theorem Bx7.sc {V0 V1 w0 w1 w2 w3:Value}{n A:Int}{w W:World}(h:Bx7 V0 V1 w0 w1 w2 w3 n A w W):W.cell? ⟨w.heap.size,0,none⟩=some V0∧W.cell? ⟨w.heap.size,1,none⟩=some V1:=by
 refine ⟨?_,?_⟩ <;> rw [Lib.cell_of_heap h.s] <;> rfl
theorem rhead7 (V0 V1 w0 w1 w2 w3:Value)(n A:Int)(w:World) :
  Hid (Calls Tryz.prog 108 #[.int .i64 n] (((w.alloc (.cells #[V0,V1] 27)).alloc (.cells #[w0,w1,w2,w3] 49)).alloc (.cells #[.int .i64 n,.int .i64 A] 74)) fun e W1=>e=.returned (.string ⟨(nameT n).toArray⟩)∧W1.cell? ⟨w.heap.size+1+1,0,none⟩=some (.int .i64 n) ∧
   Hid (Calls Tryz.prog 127 #[.int .i64 n] W1 fun e W2=>∃ ia ic,e=.returned (.slice ia (inT n).length ic)∧W2.cell? ⟨w.heap.size+1+1,0,none⟩=some (.int .i64 n) ∧
    Hid (Calls Tryz.prog 128 #[.int .i64 n] W2 fun e W3=>∃ oa oc,e=.returned (.slice oa (outT n).length oc) ∧
     Hid (Bx7 V0 V1 w0 w1 w2 w3 n A w W3∧NsAt W3.cell? ia (inT n)∧NsAt W3.cell? oa (outT n))))):=hid7 ((rname4 n _).mono fun e W1 ⟨h1,h2⟩=>by
 have x1:=(bx7_new V0 V1 w0 w1 w2 w3 n A w).below h2
 refine ⟨h1,x1.xc.1,hid7 ((rin_any7 n W1).mono fun e W2 ⟨ia,ic,h3,h4,h5⟩=>?_)⟩
 have x2:=x1.below h5
 refine ⟨ia,ic,h3,x2.xc.1,hid7 ((rout_any7 n W2).mono fun e W3 ⟨oa,oc,h6,h7,h8⟩=>?_)⟩
 exact ⟨oa,oc,h6,hid7 ⟨x2.below h8,h4.keep (below_keep h8),h7⟩⟩)
theorem rtail7 {T p:List Int}{la ta:Option Addr}{pl lc tl tc:Nat}{w W:World}(hpl:p.length=pl)(bp:pl≤1000)(hlc:pl≤lc)(htl:T.length=tl)(bt:tl≤1000)(hb:Below w.heap.size w W)(hp:NsAt W.cell? la p)(ht:NsAt W.cell? ta T) :
  Calls Tryz.prog 130 #[.slice la pl lc,.slice ta tl tc] W fun e W'=>((takeS p T).1≠0→∃ a n c,e=.returned (.tuple #[.slice a n c,.int .i64 (takeS p T).1])∧Below w.heap.size w W')∧((takeS p T).1=0→∃ a c,e=.returned (.tuple #[.slice a (takeS p T).2 c,.int .i64 0])∧Hid (W'.ownsRow w.heap.size 3 1 (.slice a (takeS p T).2 c) (takeS p T).2 (cellsN (p.take (takeS p T).2))∧Below w.heap.size w W'∧Below W.heap.size W W')):=by
 refine (rtake_any la ta lc tc pl tl p T hpl htl (by omega) (by omega) hlc W hp ht).mono fun e W' ⟨a,c,n,h1,h2,h3⟩=>⟨fun _=>⟨a,n,c,h1,hb.trans (h3.mono hb.size)⟩,fun h0=>?_⟩
 obtain ⟨rfl,_,h5⟩:=h2 h0
 exact ⟨a,c,by rw [h1,h0],hid7 ⟨row_lower h5 hb.size,hb.trans (h3.mono hb.size),h3⟩⟩
theorem rstep_end {p O:List Int}{w W:World}{e:Ending}{a:Option Addr}{n c:Nat}(hl:n≤p.length)(hr:W.ownsRow w.heap.size 3 1 (.slice a (n+O.length) c) (n+O.length) (cellsN (p.take n)++cellsN O))(hb:Below w.heap.size w W)(he:e=.returned (.tuple #[.slice a (n+O.length) c,.int .i64 0])):RStepEnd (0,p.take n++O) w e W:=by
 have h1:(p.take n++O).length=n+O.length:=by rw [List.length_append,List.length_take];omega
 obtain ⟨_,_,e1,hc,_,_⟩:=row_form hr
 cases e1
 refine ⟨a,n+O.length,c,he,fun _=>⟨h1.symm,hc,?_⟩,hb⟩
 rw [cellsN_append]
 exact hr
set_option maxRecDepth 100000 in
set_option maxHeartbeats 2000000 in
theorem rstep_plain (n A:Int)(p:List Int)(V0 V1 w0 w1 w2 w3:Value)(la:Option Addr)(pl lc:Nat)(hpl:p.length=pl)(bp:pl≤1000)(hlc:pl≤lc)(w:World)(hp:NsAt w.cell? la p)(bi:(inT n).length≤10)(bo:(outT n).length≤10)
  (hn:nameT n≠[115,101,116]∧nameT n≠[103,101,116]∧nameT n≠[99,97,108,108]∧nameT n≠[100,117,112]∧nameT n≠[115,119,97,112]∧nameT n≠[111,118,101,114]) :
  Calls Tryz.prog 90 #[.agg #[V0,V1],.agg #[w0,w1,w2,w3],.agg #[.int .i64 n,.int .i64 A],.slice la pl lc] w (RStepEnd (if (takeS p (inT n)).1=0 then (0,p.take (takeS p (inT n)).2++outT n) else ((takeS p (inT n)).1,p)) w):=by
 have HH:=rhead7 V0 V1 w0 w1 w2 w3 n A w
 have HT:Hid (∀ W ia ic,Bx7 V0 V1 w0 w1 w2 w3 n A w W→NsAt W.cell? ia (inT n)→_):=hid7 fun W ia ic (hx:Bx7 V0 V1 w0 w1 w2 w3 n A w W) hi=>rtail7 (tc:=ic) hpl bp hlc rfl (by omega) hx.b (hp.keep (below_keep hx.b)) hi
 have htl:=takeS_le p (inT n)
 rw [hpl] at htl
 generalize hTT:takeS p (inT n)=TT at HT htl ⊢
 obtain ⟨er,k⟩:=TT
 simp only at HT htl ⊢
 generalize nameT n=r at HH hn
 obtain ⟨h1,h2,h3,h4,h5,h6⟩:=hn
 rw [← beq_eq_false_iff_ne] at h1 h2 h3 h4 h5 h6
 by_cases h0:er=0
 ·subst h0
  rw [if_pos rfl]
  have HE:=hid7 fun W e a c=>rstep_end (p:=p) (O:=outT n) (w:=w) (W:=W) (e:=e) (a:=a) (n:=k) (c:=c) (by omega)
  have HO:Hid (∀ W oa oc,NsAt W.cell? oa (outT n)→Lies W (.slice oa (outT n).length oc) (outT n).length (cellsN (outT n))):=hid7 fun W oa oc h=>h.lies oc
  have hcl:(cellsN (outT n)).length=(outT n).length*1:=cellsN_len _
  have hc1:=hid7 (cellsN_one (outT n))
  clear hTT hp
  generalize inT n=T at *
  generalize outT n=O at *
  generalize T.length=tl at *
  generalize O.length=ol at *
  go_enter Tryz.func90,Tryz.ntmps90
  go_wp2_with (first
   | (go_at_call 108;refine HH.out.mono ?_;clear HH;rintro e W1 ⟨rfl,x1,H1⟩)
   | (go_at_call 127;refine H1.out.mono ?_;clear H1;rintro e W2 ⟨ia,ic,rfl,x2,H2⟩)
   | (go_at_call 128;refine H2.out.mono ?_;clear H2;rintro e W3 ⟨oa,oc,rfl,H3⟩;have H4:=hid7 (HT.out W3 ia ic H3.out.1 H3.out.2.1);clear HT)
   | (go_at_call 130;refine H4.out.mono ?_;clear H4;rintro e W4 ⟨-,h4'⟩;obtain ⟨a4,c4,rfl,H5⟩:=h4' (by simp);clear h4';have hL:=HO.out W4 oa oc (H3.out.2.2.keep (below_keep H5.out.2.2));have hs4:=H5.out.2.1.size;clear HO)
   | (at_builtin;refine wpList_appN _ rfl _ _ 28 rfl elemN_int w.heap.size _ k (cellsN (p.take k)) rfl H5.out.1 _ rfl ol (cellsN O) hL hcl hc1.out (by unfold maxLen;omega) (by omega) hs4 ?_;intro v' W5 hr5 st5;obtain ⟨va,vc,y5,_⟩:=row_form hr5;subst y5;have K5:=hid7 (And.intro hr5 st5);clear hr5 st5)
   | fail)
  go_ret2
  exact HE.out _ _ _ _ K5.out.1 (H5.out.2.1.trans (K5.out.2.below hs4 fun g e=>(H5.out.1.lt g e).1)) rfl
 ·rw [if_neg h0]
  have hne:(er != 0)=true:=by simpa using h0
  clear hTT hp
  generalize inT n=T at *
  generalize outT n=O at *
  generalize T.length=tl at *
  generalize O.length=ol at *
  go_enter Tryz.func90,Tryz.ntmps90
  go_wp2_with (first
   | (go_at_call 108;refine HH.out.mono ?_;clear HH;rintro e W1 ⟨rfl,x1,H1⟩)
   | (go_at_call 127;refine H1.out.mono ?_;clear H1;rintro e W2 ⟨ia,ic,rfl,x2,H2⟩)
   | (go_at_call 128;refine H2.out.mono ?_;clear H2;rintro e W3 ⟨oa,oc,rfl,H3⟩;have H4:=hid7 (HT.out W3 ia ic H3.out.1 H3.out.2.1);clear HT)
   | (go_at_call 130;refine H4.out.mono ?_;clear H4;rintro e W4 ⟨h4',-⟩;obtain ⟨a4,n4,c4,rfl,b5⟩:=h4' h0;clear h4')
   | fail)
  go_ret2
  exact ⟨none,0,0,rfl,fun h=>absurd h h0,b5⟩
theorem Bx7.drew1 {V0 V1 w0 w1 w2 w3:Value}{n A:Int}{w W:World}(h:Bx7 V0 V1 w0 w1 w2 w3 n A w W):Bx7 V0 V1 w0 w1 w2 w3 n A w W.drew:=h.below (Below.refl _ W).drew
theorem rslot7 {V0 V1 w0 w1 w2 w3:Value}{n:Int}{k:Nat}{g:Fn}{w:World}(hg:FnIs w.cell? g w0 w1 w2 w3)(hgf:g.fits)(hk:k<(g.p++g.l).length)(bsl:(g.p++g.l).length≤1000) :
  ∀ W,Bx7 V0 V1 w0 w1 w2 w3 n (k:Int) w W→Calls Tryz.prog 129 #[.agg #[w0,w1,w2,w3]] W fun e W'=>∃ sb sc,e=.returned (.slice (some ⟨sb,0,none⟩) (g.p++g.l).length sc)∧W'.cell? ⟨sb,k,none⟩=some (.int .i64 ((g.p++g.l).getD k 0))∧sb<W'.heap.size∧W'.cell? ⟨w.heap.size+1+1,1,none⟩=some (.int .i64 k)∧w.heap.size+1+1<W'.heap.size∧Hid (Bx7 V0 V1 w0 w1 w2 w3 n (k:Int) w W'∧Below W.heap.size W W'):=fun W hx=>by
 have hk':=hk
 rw [List.length_append] at hk' bsl
 refine (rslots_any g w0 w1 w2 w3 W (hg.keep (below_keep hx.b)) hgf (by omega)).mono fun e W' ⟨⟨v,h1,h2⟩,h3⟩=>?_
 obtain ⟨a,c,rfl,hc,_,q⟩:=row_form h2
 rcases q with ⟨_,h0,_⟩ | ⟨sb,rfl,_,hl,hcell⟩
 ·omega
 have x:=hx.below h3
 refine ⟨sb,c,h1,hcell k _ ?_,hl,x.xc.2,blk_lt x.x,hid7 ⟨x,h3⟩⟩
 rw [cellsN,List.getElem?_map,List.getElem?_eq_getElem hk,List.getD_eq_getElem?_getD,List.getElem?_eq_getElem hk]
 rfl
theorem take_one {p:List Int}{k:Nat}(h:takeS p [0]=(0,k)):p.length=k+1:=by
 unfold takeS at h
 simp only [List.reverse_cons,List.reverse_nil,List.nil_append,tkS] at h
 split at h
 ·cases h
 ·simp only [ne_eq,not_true_eq_false,false_and,if_false,Prod.mk.injEq,true_and] at h
  omega
theorem take_two {p:List Int}{k:Nat}(h:takeS p [0,0]=(0,k)):p.length=k+2:=by
 unfold takeS at h
 simp only [List.reverse_cons,List.reverse_nil,List.nil_append,List.cons_append,tkS] at h
 split at h
 ·cases h
 ·simp only [ne_eq,not_true_eq_false,false_and,if_false] at h
  split at h
  ·cases h
  ·simp only [Prod.mk.injEq,true_and] at h
   omega
theorem drop_one {p:List Int}{k:Nat}(h:p.length=k+1):p.drop k=[p.getD k 0]:=by
 rw [List.drop_eq_getElem_cons (by omega),List.drop_eq_nil_of_le (by omega),List.getD_eq_getElem?_getD,List.getElem?_eq_getElem (by omega)]
 rfl
theorem drop_two {p:List Int}{k:Nat}(h:p.length=k+2):p.drop k=[p.getD k 0,p.getD (k+1) 0]:=by
 rw [List.drop_eq_getElem_cons (by omega),drop_one (k:=k+1) (by omega),List.getD_eq_getElem?_getD,List.getD_eq_getElem?_getD,List.getElem?_eq_getElem (by omega),List.getElem?_eq_getElem (by omega)]
 rfl
theorem row_new {V:World}(xs:List Int)(n:Nat):Lies (V.alloc (.cells (cellsN xs).toArray 3)) (.slice (some ⟨V.heap.size,0,none⟩) n n) n (cellsN xs):=by
 refine .inr ⟨_,n,rfl,fun j u hu=>?_⟩
 rw [Addr.add_lit,Nat.zero_add,Lib.cell_of_heap (heap_alloc_new V _)]
 simpa using hu
set_option maxRecDepth 100000 in
set_option maxHeartbeats 2000000 in
theorem rstep_dup (A:Int)(p:List Int)(V0 V1 w0 w1 w2 w3:Value)(la:Option Addr)(pl lc:Nat)(hpl:p.length=pl)(bp:pl≤1000)(hlc:pl≤lc)(w:World)(hp:NsAt w.cell? la p) :
  Calls Tryz.prog 90 #[.agg #[V0,V1],.agg #[w0,w1,w2,w3],.agg #[.int .i64 6,.int .i64 A],.slice la pl lc] w (RStepEnd (if (takeS p [0]).1=0 then (0,p.take (takeS p [0]).2++(p.drop (takeS p [0]).2++p.drop (takeS p [0]).2)) else ((takeS p [0]).1,p)) w):=by
 have HH:=rhead7 V0 V1 w0 w1 w2 w3 6 A w
 rw [show nameT 6=[100,117,112] by decide,show inT 6=[0] by decide,show outT 6=[0,0] by decide] at HH
 simp only [List.length_cons,List.length_nil,Nat.zero_add] at HH
 have HT:Hid (∀ W ta tc tl,tl=([0]).length→Bx7 V0 V1 w0 w1 w2 w3 6 A w W→NsAt W.cell? ta [0]→_):=hid7 fun W ta tc tl htl (hx:Bx7 V0 V1 w0 w1 w2 w3 6 A w W) hi=>rtail7 (tl:=tl) (tc:=tc) hpl bp hlc htl.symm (by simp_all) hx.b (hp.keep (below_keep hx.b)) hi
 have htl:=takeS_le p [0]
 rw [hpl] at htl
 generalize hTT:takeS p [0]=TT at HT htl ⊢
 obtain ⟨er,k0⟩:=TT
 simp only at HT htl ⊢
 by_cases h0:er=0
 ·subst h0
  rw [if_pos rfl]
  have hq:=take_one hTT
  have hplk:pl=k0+1:=by omega
  subst hplk
  obtain ⟨lb,lo,rfl⟩:=ns_some hp (by omega)
  have c0:=ns_at hp k0 (by omega)
  have hO:=drop_one hq
  generalize p.getD k0 0=t0 at *
  have hG:(p.drop k0++p.drop k0)=[t0,t0]:=by rw [hO];rfl
  rw [hG]
  have HE:=hid7 fun W e a c=>rstep_end (p:=p) (O:=[t0,t0]) (w:=w) (W:=W) (e:=e) (a:=a) (n:=k0) (c:=c) (by omega)
  have HC:Hid (∀ W,Below w.heap.size w W→W.cell? ⟨lb,lo+k0,none⟩=some (.int .i64 t0)∧lb<W.heap.size):=hid7 fun W hb=>⟨below_keep hb _ _ c0,Nat.lt_of_lt_of_le (World.block_lt_of_cell? w _ c0) hb.size⟩
  have HO:Hid (∀ V:World,Lies (V.alloc (.cells #[.int .i64 t0,.int .i64 t0] 3)).drew (.slice (some ⟨V.heap.size,0,none⟩) 2 2) 2 [.int .i64 t0,.int .i64 t0]):=hid7 fun V=>(row_new [t0,t0] 2).keep (below_keep (Below.refl _ _).drew)
  have HW:Hid (∀ W4 V a4 c4,Below w.heap.size w W4→W4.ownsRow w.heap.size 3 1 (.slice a4 k0 c4) k0 (cellsN (p.take k0))→Below W4.heap.size W4 V→V.ownsRow w.heap.size 3 1 (.slice a4 k0 c4) k0 (cellsN (p.take k0))∧w.heap.size≤V.heap.size∧Below w.heap.size w V):=hid7 fun W4 V a4 c4 h1 h2 h3=>⟨row_below2 h2 h3,Nat.le_trans h1.size h3.size,h1.trans (h3.mono h1.size)⟩
  clear hTT hp c0 hO hG hq
  go_enter Tryz.func90,Tryz.ntmps90
  go_wp2_with (first
   | (go_at_call 108;refine HH.out.mono ?_;clear HH;rintro e W1 ⟨rfl,x1,H1⟩)
   | (go_at_call 127;refine H1.out.mono ?_;clear H1;rintro e W2 ⟨ia,ic,rfl,x2,H2⟩)
   | (go_at_call 128;refine H2.out.mono ?_;clear H2;rintro e W3 ⟨oa,oc,rfl,H3⟩;have H4:=hid7 (HT.out W3 ia ic _ rfl H3.out.1 H3.out.2.1);clear HT)
   | (go_at_call 130;refine H4.out.mono ?_;clear H4;rintro e W4 ⟨-,h4'⟩;obtain ⟨a4,c4,rfl,H5⟩:=h4' (by simp);clear h4';obtain ⟨d0,dl⟩:=HC.out W4 H5.out.2.1;clear HC)
   | fail)
  have g1:IntKind.i64.wrap (k0:Int)=k0:=by rw [IntKind.wrap_i64];omega
  have g2:(0:Int)≤k0:=by omega
  have g3:(k0:Int)<(k0:Int)+1:=by omega
  go_region_held3 (fun W=>W.cell? ⟨lb,lo+k0,none⟩=some (.int .i64 t0)) (first | exact d0 | go_keep) (fail)
  obtain ⟨o4,s4,b4⟩:=HW.out W4 (W4.alloc (.cells #[.int .i64 t0,.int .i64 t0] 3)).drew a4 c4 H5.out.2.1 H5.out.1 (((Below.refl _ W4).alloc (Nat.le_refl _) _).drew)
  have hL:=HO.out W4
  have O4:=hid7 o4
  have B4:=hid7 b4
  clear o4 b4 HO HW
  go_wp2_with (at_builtin;refine wpList_appN _ rfl _ _ 28 rfl elemN_int w.heap.size _ k0 (cellsN (p.take k0)) rfl O4.out _ rfl 2 [.int .i64 t0,.int .i64 t0] hL rfl (by simp [Value.oneCell']) (by unfold maxLen;omega) (by omega) s4 ?_;intro v' W5 hr5 st5;obtain ⟨va,vc,y5,_⟩:=row_form hr5;subst y5;have K5:=hid7 (And.intro hr5 st5);clear hr5 st5)
  go_ret2
  exact HE.out _ _ _ _ K5.out.1 (B4.out.trans (K5.out.2.below s4 fun g e=>(O4.out.lt g e).1)) rfl
 ·rw [if_neg h0]
  have hne:(er != 0)=true:=by simpa using h0
  clear hTT hp
  go_enter Tryz.func90,Tryz.ntmps90
  go_wp2_with (first
   | (go_at_call 108;refine HH.out.mono ?_;clear HH;rintro e W1 ⟨rfl,x1,H1⟩)
   | (go_at_call 127;refine H1.out.mono ?_;clear H1;rintro e W2 ⟨ia,ic,rfl,x2,H2⟩)
   | (go_at_call 128;refine H2.out.mono ?_;clear H2;rintro e W3 ⟨oa,oc,rfl,H3⟩;have H4:=hid7 (HT.out W3 ia ic _ rfl H3.out.1 H3.out.2.1);clear HT)
   | (go_at_call 130;refine H4.out.mono ?_;clear H4;rintro e W4 ⟨h4',-⟩;obtain ⟨a4,n4,c4,rfl,b5⟩:=h4' h0;clear h4')
   | fail)
  go_ret2
  exact ⟨none,0,0,rfl,fun h=>absurd h h0,b5⟩
set_option maxRecDepth 100000 in
set_option maxHeartbeats 2000000 in
theorem rstep_swap (A:Int)(p:List Int)(V0 V1 w0 w1 w2 w3:Value)(la:Option Addr)(pl lc:Nat)(hpl:p.length=pl)(bp:pl≤1000)(hlc:pl≤lc)(w:World)(hp:NsAt w.cell? la p) :
  Calls Tryz.prog 90 #[.agg #[V0,V1],.agg #[w0,w1,w2,w3],.agg #[.int .i64 7,.int .i64 A],.slice la pl lc] w (RStepEnd (if (takeS p [0,0]).1=0 then (0,p.take (takeS p [0,0]).2++((p.drop (takeS p [0,0]).2).drop 1++[(p.drop (takeS p [0,0]).2).getD 0 0])) else ((takeS p [0,0]).1,p)) w):=by
 have HH:=rhead7 V0 V1 w0 w1 w2 w3 7 A w
 rw [show nameT 7=[115,119,97,112] by decide,show inT 7=[0,0] by decide,show outT 7=[0,0] by decide] at HH
 simp only [List.length_cons,List.length_nil,Nat.zero_add] at HH
 have HT:Hid (∀ W ta tc tl,tl=([0,0]).length→Bx7 V0 V1 w0 w1 w2 w3 7 A w W→NsAt W.cell? ta [0,0]→_):=hid7 fun W ta tc tl htl (hx:Bx7 V0 V1 w0 w1 w2 w3 7 A w W) hi=>rtail7 (tl:=tl) (tc:=tc) hpl bp hlc htl.symm (by simp_all) hx.b (hp.keep (below_keep hx.b)) hi
 have htl:=takeS_le p [0,0]
 rw [hpl] at htl
 generalize hTT:takeS p [0,0]=TT at HT htl ⊢
 obtain ⟨er,k0⟩:=TT
 simp only at HT htl ⊢
 by_cases h0:er=0
 ·subst h0
  rw [if_pos rfl]
  have hq:=take_two hTT
  have hplk:pl=k0+2:=by omega
  subst hplk
  obtain ⟨lb,lo,rfl⟩:=ns_some hp (by omega)
  have c0:=ns_at hp k0 (by omega)
  have c1:=ns_at hp (k0+1) (by omega)
  have hO:=drop_two hq
  generalize p.getD k0 0=t0 at *
  generalize p.getD (k0+1) 0=t1 at *
  have hG:((p.drop k0).drop 1++[(p.drop k0).getD 0 0])=[t1,t0]:=by rw [hO];rfl
  rw [hG]
  have HE:=hid7 fun W e a c=>rstep_end (p:=p) (O:=[t1,t0]) (w:=w) (W:=W) (e:=e) (a:=a) (n:=k0) (c:=c) (by omega)
  have HC:Hid (∀ W,Below w.heap.size w W→W.cell? ⟨lb,lo+k0,none⟩=some (.int .i64 t0)∧W.cell? ⟨lb,lo+(k0+1),none⟩=some (.int .i64 t1)∧lb<W.heap.size):=hid7 fun W hb=>⟨below_keep hb _ _ c0,below_keep hb _ _ c1,Nat.lt_of_lt_of_le (World.block_lt_of_cell? w _ c0) hb.size⟩
  have HO:Hid (∀ V:World,Lies (V.alloc (.cells #[.int .i64 t1,.int .i64 t0] 3)).drew (.slice (some ⟨V.heap.size,0,none⟩) 2 2) 2 [.int .i64 t1,.int .i64 t0]):=hid7 fun V=>(row_new [t1,t0] 2).keep (below_keep (Below.refl _ _).drew)
  have HW:Hid (∀ W4 V a4 c4,Below w.heap.size w W4→W4.ownsRow w.heap.size 3 1 (.slice a4 k0 c4) k0 (cellsN (p.take k0))→Below W4.heap.size W4 V→V.ownsRow w.heap.size 3 1 (.slice a4 k0 c4) k0 (cellsN (p.take k0))∧w.heap.size≤V.heap.size∧Below w.heap.size w V):=hid7 fun W4 V a4 c4 h1 h2 h3=>⟨row_below2 h2 h3,Nat.le_trans h1.size h3.size,h1.trans (h3.mono h1.size)⟩
  clear hTT hp c0 hO hG hq c1
  go_enter Tryz.func90,Tryz.ntmps90
  go_wp2_with (first
   | (go_at_call 108;refine HH.out.mono ?_;clear HH;rintro e W1 ⟨rfl,x1,H1⟩)
   | (go_at_call 127;refine H1.out.mono ?_;clear H1;rintro e W2 ⟨ia,ic,rfl,x2,H2⟩)
   | (go_at_call 128;refine H2.out.mono ?_;clear H2;rintro e W3 ⟨oa,oc,rfl,H3⟩;have H4:=hid7 (HT.out W3 ia ic _ rfl H3.out.1 H3.out.2.1);clear HT)
   | (go_at_call 130;refine H4.out.mono ?_;clear H4;rintro e W4 ⟨-,h4'⟩;obtain ⟨a4,c4,rfl,H5⟩:=h4' (by simp);clear h4';obtain ⟨d0,d1,dl⟩:=HC.out W4 H5.out.2.1;clear HC)
   | fail)
  have g1:IntKind.i64.wrap (k0:Int)=k0:=by rw [IntKind.wrap_i64];omega
  have g2:(0:Int)≤k0:=by omega
  have g3:(k0:Int)<(k0:Int)+2:=by omega
  have g4:(k0:Int)+1<(k0:Int)+2:=by omega
  have g5:(0:Int)≤(k0:Int)+1:=by omega
  have g6:IntKind.i64.wrap ((k0:Int)+2 - 1)=(k0:Int)+1:=by rw [IntKind.wrap_i64];omega
  have g7:IntKind.i64.wrap ((k0:Int)+1)=(k0:Int)+1:=by rw [IntKind.wrap_i64];omega
  go_region_held3 (fun W=>W.cell? ⟨lb,lo+k0,none⟩=some (.int .i64 t0)∧W.cell? ⟨lb,lo+(k0+1),none⟩=some (.int .i64 t1)) (first | exact ⟨d0,d1⟩ | go_keep) (fail)
  obtain ⟨o4,s4,b4⟩:=HW.out W4 (W4.alloc (.cells #[.int .i64 t1,.int .i64 t0] 3)).drew a4 c4 H5.out.2.1 H5.out.1 (((Below.refl _ W4).alloc (Nat.le_refl _) _).drew)
  have hL:=HO.out W4
  have O4:=hid7 o4
  have B4:=hid7 b4
  clear o4 b4 HO HW
  go_wp2_with (at_builtin;refine wpList_appN _ rfl _ _ 28 rfl elemN_int w.heap.size _ k0 (cellsN (p.take k0)) rfl O4.out _ rfl 2 [.int .i64 t1,.int .i64 t0] hL rfl (by simp [Value.oneCell']) (by unfold maxLen;omega) (by omega) s4 ?_;intro v' W5 hr5 st5;obtain ⟨va,vc,y5,_⟩:=row_form hr5;subst y5;have K5:=hid7 (And.intro hr5 st5);clear hr5 st5)
  go_ret2
  exact HE.out _ _ _ _ K5.out.1 (B4.out.trans (K5.out.2.below s4 fun g e=>(O4.out.lt g e).1)) rfl
 ·rw [if_neg h0]
  have hne:(er != 0)=true:=by simpa using h0
  clear hTT hp
  go_enter Tryz.func90,Tryz.ntmps90
  go_wp2_with (first
   | (go_at_call 108;refine HH.out.mono ?_;clear HH;rintro e W1 ⟨rfl,x1,H1⟩)
   | (go_at_call 127;refine H1.out.mono ?_;clear H1;rintro e W2 ⟨ia,ic,rfl,x2,H2⟩)
   | (go_at_call 128;refine H2.out.mono ?_;clear H2;rintro e W3 ⟨oa,oc,rfl,H3⟩;have H4:=hid7 (HT.out W3 ia ic _ rfl H3.out.1 H3.out.2.1);clear HT)
   | (go_at_call 130;refine H4.out.mono ?_;clear H4;rintro e W4 ⟨h4',-⟩;obtain ⟨a4,n4,c4,rfl,b5⟩:=h4' h0;clear h4')
   | fail)
  go_ret2
  exact ⟨none,0,0,rfl,fun h=>absurd h h0,b5⟩
set_option maxRecDepth 100000 in
set_option maxHeartbeats 2000000 in
theorem rstep_over (A:Int)(p:List Int)(V0 V1 w0 w1 w2 w3:Value)(la:Option Addr)(pl lc:Nat)(hpl:p.length=pl)(bp:pl≤1000)(hlc:pl≤lc)(w:World)(hp:NsAt w.cell? la p) :
  Calls Tryz.prog 90 #[.agg #[V0,V1],.agg #[w0,w1,w2,w3],.agg #[.int .i64 8,.int .i64 A],.slice la pl lc] w (RStepEnd (if (takeS p [0,0]).1=0 then (0,p.take (takeS p [0,0]).2++(p.drop (takeS p [0,0]).2++[(p.drop (takeS p [0,0]).2).getD 0 0])) else ((takeS p [0,0]).1,p)) w):=by
 have HH:=rhead7 V0 V1 w0 w1 w2 w3 8 A w
 rw [show nameT 8=[111,118,101,114] by decide,show inT 8=[0,0] by decide,show outT 8=[0,0,0] by decide] at HH
 simp only [List.length_cons,List.length_nil,Nat.zero_add] at HH
 have HT:Hid (∀ W ta tc tl,tl=([0,0]).length→Bx7 V0 V1 w0 w1 w2 w3 8 A w W→NsAt W.cell? ta [0,0]→_):=hid7 fun W ta tc tl htl (hx:Bx7 V0 V1 w0 w1 w2 w3 8 A w W) hi=>rtail7 (tl:=tl) (tc:=tc) hpl bp hlc htl.symm (by simp_all) hx.b (hp.keep (below_keep hx.b)) hi
 have htl:=takeS_le p [0,0]
 rw [hpl] at htl
 generalize hTT:takeS p [0,0]=TT at HT htl ⊢
 obtain ⟨er,k0⟩:=TT
 simp only at HT htl ⊢
 by_cases h0:er=0
 ·subst h0
  rw [if_pos rfl]
  have hq:=take_two hTT
  have hplk:pl=k0+2:=by omega
  subst hplk
  obtain ⟨lb,lo,rfl⟩:=ns_some hp (by omega)
  have c0:=ns_at hp k0 (by omega)
  have c1:=ns_at hp (k0+1) (by omega)
  have hO:=drop_two hq
  generalize p.getD k0 0=t0 at *
  generalize p.getD (k0+1) 0=t1 at *
  have hG:(p.drop k0++[(p.drop k0).getD 0 0])=[t0,t1,t0]:=by rw [hO];rfl
  rw [hG]
  have HE:=hid7 fun W e a c=>rstep_end (p:=p) (O:=[t0,t1,t0]) (w:=w) (W:=W) (e:=e) (a:=a) (n:=k0) (c:=c) (by omega)
  have HC:Hid (∀ W,Below w.heap.size w W→W.cell? ⟨lb,lo+k0,none⟩=some (.int .i64 t0)∧W.cell? ⟨lb,lo+(k0+1),none⟩=some (.int .i64 t1)∧lb<W.heap.size):=hid7 fun W hb=>⟨below_keep hb _ _ c0,below_keep hb _ _ c1,Nat.lt_of_lt_of_le (World.block_lt_of_cell? w _ c0) hb.size⟩
  have HO:Hid (∀ V:World,Lies (V.alloc (.cells #[.int .i64 t0,.int .i64 t1,.int .i64 t0] 3)).drew (.slice (some ⟨V.heap.size,0,none⟩) 3 3) 3 [.int .i64 t0,.int .i64 t1,.int .i64 t0]):=hid7 fun V=>(row_new [t0,t1,t0] 3).keep (below_keep (Below.refl _ _).drew)
  have HW:Hid (∀ W4 V a4 c4,Below w.heap.size w W4→W4.ownsRow w.heap.size 3 1 (.slice a4 k0 c4) k0 (cellsN (p.take k0))→Below W4.heap.size W4 V→V.ownsRow w.heap.size 3 1 (.slice a4 k0 c4) k0 (cellsN (p.take k0))∧w.heap.size≤V.heap.size∧Below w.heap.size w V):=hid7 fun W4 V a4 c4 h1 h2 h3=>⟨row_below2 h2 h3,Nat.le_trans h1.size h3.size,h1.trans (h3.mono h1.size)⟩
  clear hTT hp c0 hO hG hq c1
  go_enter Tryz.func90,Tryz.ntmps90
  go_wp2_with (first
   | (go_at_call 108;refine HH.out.mono ?_;clear HH;rintro e W1 ⟨rfl,x1,H1⟩)
   | (go_at_call 127;refine H1.out.mono ?_;clear H1;rintro e W2 ⟨ia,ic,rfl,x2,H2⟩)
   | (go_at_call 128;refine H2.out.mono ?_;clear H2;rintro e W3 ⟨oa,oc,rfl,H3⟩;have H4:=hid7 (HT.out W3 ia ic _ rfl H3.out.1 H3.out.2.1);clear HT)
   | (go_at_call 130;refine H4.out.mono ?_;clear H4;rintro e W4 ⟨-,h4'⟩;obtain ⟨a4,c4,rfl,H5⟩:=h4' (by simp);clear h4';obtain ⟨d0,d1,dl⟩:=HC.out W4 H5.out.2.1;clear HC)
   | fail)
  have g1:IntKind.i64.wrap (k0:Int)=k0:=by rw [IntKind.wrap_i64];omega
  have g2:(0:Int)≤k0:=by omega
  have g3:(k0:Int)<(k0:Int)+2:=by omega
  have g4:(k0:Int)+1<(k0:Int)+2:=by omega
  have g5:(0:Int)≤(k0:Int)+1:=by omega
  have g6:IntKind.i64.wrap ((k0:Int)+2 - 1)=(k0:Int)+1:=by rw [IntKind.wrap_i64];omega
  have g7:IntKind.i64.wrap ((k0:Int)+1)=(k0:Int)+1:=by rw [IntKind.wrap_i64];omega
  go_region_held3 (fun W=>W.cell? ⟨lb,lo+k0,none⟩=some (.int .i64 t0)∧W.cell? ⟨lb,lo+(k0+1),none⟩=some (.int .i64 t1)) (first | exact ⟨d0,d1⟩ | go_keep) (fail)
  obtain ⟨o4,s4,b4⟩:=HW.out W4 (W4.alloc (.cells #[.int .i64 t0,.int .i64 t1,.int .i64 t0] 3)).drew a4 c4 H5.out.2.1 H5.out.1 (((Below.refl _ W4).alloc (Nat.le_refl _) _).drew)
  have hL:=HO.out W4
  have O4:=hid7 o4
  have B4:=hid7 b4
  clear o4 b4 HO HW
  go_wp2_with (at_builtin;refine wpList_appN _ rfl _ _ 28 rfl elemN_int w.heap.size _ k0 (cellsN (p.take k0)) rfl O4.out _ rfl 3 [.int .i64 t0,.int .i64 t1,.int .i64 t0] hL rfl (by simp [Value.oneCell']) (by unfold maxLen;omega) (by omega) s4 ?_;intro v' W5 hr5 st5;obtain ⟨va,vc,y5,_⟩:=row_form hr5;subst y5;have K5:=hid7 (And.intro hr5 st5);clear hr5 st5)
  go_ret2
  exact HE.out _ _ _ _ K5.out.1 (B4.out.trans (K5.out.2.below s4 fun g e=>(O4.out.lt g e).1)) rfl
 ·rw [if_neg h0]
  have hne:(er != 0)=true:=by simpa using h0
  clear hTT hp
  go_enter Tryz.func90,Tryz.ntmps90
  go_wp2_with (first
   | (go_at_call 108;refine HH.out.mono ?_;clear HH;rintro e W1 ⟨rfl,x1,H1⟩)
   | (go_at_call 127;refine H1.out.mono ?_;clear H1;rintro e W2 ⟨ia,ic,rfl,x2,H2⟩)
   | (go_at_call 128;refine H2.out.mono ?_;clear H2;rintro e W3 ⟨oa,oc,rfl,H3⟩;have H4:=hid7 (HT.out W3 ia ic _ rfl H3.out.1 H3.out.2.1);clear HT)
   | (go_at_call 130;refine H4.out.mono ?_;clear H4;rintro e W4 ⟨h4',-⟩;obtain ⟨a4,n4,c4,rfl,b5⟩:=h4' h0;clear h4')
   | fail)
  go_ret2
  exact ⟨none,0,0,rfl,fun h=>absurd h h0,b5⟩
theorem lies_one (V:World)(y:Int):Lies (V.alloc (.cells #[.int .i64 y] 3)) (.slice (some ⟨V.heap.size,0,none⟩) 1 1) 1 (cellsN [y]):=row_new [y] 1
set_option maxRecDepth 100000 in
set_option maxHeartbeats 2000000 in
theorem rstep_set (k:Nat)(g:Fn)(p:List Int)(V0 V1 w0 w1 w2 w3:Value)(la:Option Addr)(pl lc:Nat)(hpl:p.length=pl)(bp:pl≤1000)(hlc:pl≤lc)(w:World)(hp:NsAt w.cell? la p)(hg:FnIs w.cell? g w0 w1 w2 w3)(hgf:g.fits)(hk:k<(g.p++g.l).length)(bsl:(g.p++g.l).length≤1000) :
  Calls Tryz.prog 90 #[.agg #[V0,V1],.agg #[w0,w1,w2,w3],.agg #[.int .i64 10,.int .i64 k],.slice la pl lc] w (RStepEnd (if (takeS p [(g.p++g.l).getD k 0]).1=0 then (0,p.take (takeS p [(g.p++g.l).getD k 0]).2++[]) else ((takeS p [(g.p++g.l).getD k 0]).1,p)) w):=by
 have HH:=rhead7 V0 V1 w0 w1 w2 w3 10 k w
 rw [show nameT 10=[115,101,116] by decide,show inT 10=[0] by decide,show outT 10=[] by decide] at HH
 simp only [List.length_cons,List.length_nil,Nat.zero_add] at HH
 have HS:=hid7 (rslot7 (V0:=V0) (V1:=V1) (n:=10) hg hgf hk bsl)
 generalize (g.p++g.l).getD k 0=y at *
 generalize (g.p++g.l).length=sn at *
 have HT:Hid (∀ W,Bx7 V0 V1 w0 w1 w2 w3 10 k w W→Calls Tryz.prog 130 #[.slice la pl lc,.slice (some ⟨W.heap.size,0,none⟩) 1 1] (W.alloc (.cells #[.int .i64 y] 3)) _):=hid7 fun W hx=>rtail7 (T:=[y]) (tl:=1) (tc:=1) (w:=w) hpl bp hlc rfl (by omega) (hx.b.alloc hx.b.size _) (hp.keep (below_keep (hx.b.alloc hx.b.size _))) (ns_one_new W y)
 have htl:=takeS_le p [y]
 rw [hpl] at htl
 generalize hTT:takeS p [y]=TT at HT htl ⊢
 obtain ⟨er,k0⟩:=TT
 simp only at HT htl ⊢
 have hkn:(k:Int)<sn:=by omega
 have hk0:(0:Int)≤k:=by omega
 by_cases h0:er=0
 ·subst h0
  rw [if_pos rfl]
  have HE:=hid7 fun W e a c=>rstep_end (p:=p) (O:=[]) (w:=w) (W:=W) (e:=e) (a:=a) (n:=k0) (c:=c) (by omega)
  have HO:Hid (∀ (W:World) oa oc,Lies W (.slice oa 0 oc) 0 (cellsN [])):=hid7 fun W oa oc=>(show NsAt W.cell? oa [] from .inl rfl).lies oc
  clear hTT hp hg
  go_enter Tryz.func90,Tryz.ntmps90
  go_wp2_with (first
   | (go_at_call 108;refine HH.out.mono ?_;clear HH;rintro e W1 ⟨rfl,x1,H1⟩)
   | (go_at_call 127;refine H1.out.mono ?_;clear H1;rintro e W2 ⟨ia,ic,rfl,x2,H2⟩)
   | (go_at_call 128;refine H2.out.mono ?_;clear H2;rintro e W3 ⟨oa,oc,rfl,H3⟩;obtain ⟨f0,f1,f2,f3⟩:=H3.out.1.fc;have f4:=H3.out.1.xc.2)
   | fail)
  go_region_with (first | (go_at_call 129;refine (HS.out _ H3.out.1.drew1).mono ?_;clear HS;rintro e W4 ⟨sb,sc,rfl,s1,s2,s3,s4,H5⟩;have H6:=hid7 (HT.out W4 H5.out.1);clear HT) | fail)
  all_goals
   go_wp2_with (first
    | (go_at_call 130;refine H6.out.mono ?_;clear H6;rintro e W5 ⟨-,h4'⟩;obtain ⟨a4,c4,rfl,H7⟩:=h4' (by simp);clear h4';have hs4:=H7.out.2.1.size;have hL:=HO.out W5 oa oc;clear HO)
    | (at_builtin;refine wpList_appN _ rfl _ _ 28 rfl elemN_int w.heap.size _ k0 (cellsN (p.take k0)) rfl H7.out.1 _ rfl 0 (cellsN []) hL rfl (cellsN_one []) (by unfold maxLen;omega) (by omega) hs4 ?_;intro v' W6 hr5 st5;obtain ⟨va,vc,y5,_⟩:=row_form hr5;subst y5;have K5:=hid7 (And.intro hr5 st5);clear hr5 st5)
    | fail)
   go_ret2
   exact HE.out _ _ _ _ K5.out.1 (H7.out.2.1.trans (K5.out.2.below hs4 fun g e=>(H7.out.1.lt g e).1)) rfl
 ·rw [if_neg h0]
  have hne:(er != 0)=true:=by simpa using h0
  clear hTT hp hg
  go_enter Tryz.func90,Tryz.ntmps90
  go_wp2_with (first
   | (go_at_call 108;refine HH.out.mono ?_;clear HH;rintro e W1 ⟨rfl,x1,H1⟩)
   | (go_at_call 127;refine H1.out.mono ?_;clear H1;rintro e W2 ⟨ia,ic,rfl,x2,H2⟩)
   | (go_at_call 128;refine H2.out.mono ?_;clear H2;rintro e W3 ⟨oa,oc,rfl,H3⟩;obtain ⟨f0,f1,f2,f3⟩:=H3.out.1.fc;have f4:=H3.out.1.xc.2)
   | fail)
  go_region_with (first | (go_at_call 129;refine (HS.out _ H3.out.1.drew1).mono ?_;clear HS;rintro e W4 ⟨sb,sc,rfl,s1,s2,s3,s4,H5⟩;have H6:=hid7 (HT.out W4 H5.out.1);clear HT) | fail)
  all_goals
   go_wp2_with (first | (go_at_call 130;refine H6.out.mono ?_;clear H6;rintro e W5 ⟨h4',-⟩;obtain ⟨a4,n4,c4,rfl,b5⟩:=h4' h0;clear h4') | fail)
   go_ret2
   exact ⟨none,0,0,rfl,fun h=>absurd h h0,b5⟩
set_option maxRecDepth 100000 in
set_option maxHeartbeats 2000000 in
theorem rstep_get (k:Nat)(g:Fn)(p:List Int)(V0 V1 w0 w1 w2 w3:Value)(la:Option Addr)(pl lc:Nat)(hpl:p.length=pl)(bp:pl≤1000)(hlc:pl≤lc)(w:World)(hp:NsAt w.cell? la p)(hg:FnIs w.cell? g w0 w1 w2 w3)(hgf:g.fits)(hk:k<(g.p++g.l).length)(bsl:(g.p++g.l).length≤1000) :
  Calls Tryz.prog 90 #[.agg #[V0,V1],.agg #[w0,w1,w2,w3],.agg #[.int .i64 9,.int .i64 k],.slice la pl lc] w (RStepEnd (0,p++[(g.p++g.l).getD k 0]) w):=by
 have HH:=rhead7 V0 V1 w0 w1 w2 w3 9 k w
 rw [show nameT 9=[103,101,116] by decide,show inT 9=[] by decide,show outT 9=[0] by decide] at HH
 simp only [List.length_cons,List.length_nil,Nat.zero_add] at HH
 have HS:=hid7 (rslot7 (V0:=V0) (V1:=V1) (n:=9) hg hgf hk bsl)
 generalize (g.p++g.l).getD k 0=y at *
 generalize (g.p++g.l).length=sn at *
 have ht:takeS p []=(0,p.length):=by simp [takeS,tkS]
 have HT:Hid (∀ W ia ic,Bx7 V0 V1 w0 w1 w2 w3 9 k w W→Calls Tryz.prog 130 #[.slice la pl lc,.slice ia 0 ic] (W.alloc (.cells #[.int .i64 y] 3)) fun e W'=>∃ a c,e=.returned (.tuple #[.slice a pl c,.int .i64 0])∧Lies W' (.slice (some ⟨W.heap.size,0,none⟩) 1 1) 1 [.int .i64 y]∧Hid (W'.ownsRow w.heap.size 3 1 (.slice a pl c) pl (cellsN (p.take pl))∧Below w.heap.size w W')):=hid7 fun W ia ic hx=>(rtail7 (T:=[]) (tl:=0) (tc:=ic) (w:=w) hpl bp hlc rfl (by omega) (hx.b.alloc hx.b.size _) (hp.keep (below_keep (hx.b.alloc hx.b.size _))) (.inl rfl)).mono fun e W' ⟨_,h2⟩=>by
  rw [ht,hpl] at h2
  obtain ⟨a,c,h3,h4⟩:=h2 rfl
  exact ⟨a,c,h3,(lies_one W y).keep (below_keep h4.out.2.2),hid7 ⟨h4.out.1,h4.out.2.1⟩⟩
 have hkn:(k:Int)<sn:=by omega
 have hk0:(0:Int)≤k:=by omega
 have HE:=hid7 fun W e a c=>rstep_end (p:=p) (O:=[y]) (w:=w) (W:=W) (e:=e) (a:=a) (n:=pl) (c:=c) (by omega)
 rw [show p.take pl=p by rw [← hpl];exact List.take_length] at HE HT
 clear hp hg ht
 go_enter Tryz.func90,Tryz.ntmps90
 go_wp2_with (first
  | (go_at_call 108;refine HH.out.mono ?_;clear HH;rintro e W1 ⟨rfl,x1,H1⟩)
  | (go_at_call 127;refine H1.out.mono ?_;clear H1;rintro e W2 ⟨ia,ic,rfl,x2,H2⟩)
  | (go_at_call 128;refine H2.out.mono ?_;clear H2;rintro e W3 ⟨oa,oc,rfl,H3⟩;obtain ⟨f0,f1,f2,f3⟩:=H3.out.1.fc;have f4:=H3.out.1.xc.2)
  | fail)
 go_region_with (first | (go_at_call 129;refine (HS.out _ H3.out.1.drew1).mono ?_;clear HS;rintro e W4 ⟨sb,sc,rfl,s1,s2,s3,s4,H5⟩;have H6:=hid7 (HT.out W4 ia ic H5.out.1);clear HT) | fail)
 all_goals
  go_wp2_with (first
   | (go_at_call 130;refine H6.out.mono ?_;clear H6;rintro e W5 ⟨a4,c4,rfl,hL,H7⟩;have hs4:=H7.out.2.size)
   | (at_builtin;refine wpList_appN _ rfl _ _ 28 rfl elemN_int w.heap.size _ pl (cellsN p) rfl H7.out.1 _ rfl 1 [.int .i64 y] hL rfl (by simp [Value.oneCell']) (by unfold maxLen;omega) (by omega) hs4 ?_;intro v' W6 hr5 st5;obtain ⟨va,vc,y5,_⟩:=row_form hr5;subst y5;have K5:=hid7 (And.intro hr5 st5);clear hr5 st5)
   | fail)
  go_ret2
  exact HE.out _ _ _ _ K5.out.1 (H7.out.2.trans (K5.out.2.below hs4 fun g e=>(H7.out.1.lt g e).1)) rfl
set_option maxRecDepth 100000 in
set_option maxHeartbeats 2000000 in
theorem rstep_call (k:Nat)(fs:List Fn)(p:List Int)(V0 w0 w1 w2 w3:Value)(fa:Option Addr)(fc:Nat)(la:Option Addr)(pl lc:Nat)(hpl:p.length=pl)(bp:pl≤1000)(hlc:pl≤lc)(w:World)(hp:NsAt w.cell? la p)(hf:FsAt w.cell? fa fs)(hk:k<fs.length)(bf:fs.length≤1000)(bi:(fnAt fs k).p.length≤8)(bo:(fnAt fs k).r.length≤8) :
  Calls Tryz.prog 90 #[.agg #[V0,.slice fa fs.length fc],.agg #[w0,w1,w2,w3],.agg #[.int .i64 53,.int .i64 k],.slice la pl lc] w (RStepEnd (if (takeS p (fnAt fs k).p).1=0 then (0,p.take (takeS p (fnAt fs k).p).2++(fnAt fs k).r) else ((takeS p (fnAt fs k).p).1,p)) w):=by
 have HH:=rhead7 V0 (.slice fa fs.length fc) w0 w1 w2 w3 53 k w
 rw [show nameT 53=[99,97,108,108] by decide,show inT 53=[] by decide,show outT 53=[] by decide] at HH
 simp only [List.length_nil] at HH
 obtain ⟨fb,fo,rfl⟩:=fs_some hf (by omega)
 obtain ⟨a0,c0,a1,c1,q0,q1,q2,q3⟩:=fn_cells hf k hk
 have HC:Hid (∀ W,Below w.heap.size w W→W.cell? ⟨fb,fo+k*4,none⟩=some (.slice a0 (fnAt fs k).p.length c0)∧W.cell? ⟨fb,fo+k*4+1,none⟩=some (.slice a1 (fnAt fs k).r.length c1)∧fb<W.heap.size):=hid7 fun W hb=>⟨below_keep hb _ _ q0,below_keep hb _ _ q2,Nat.lt_of_lt_of_le (World.block_lt_of_cell? w _ q0) hb.size⟩
 have HT:Hid (∀ W,Below w.heap.size w W→Calls Tryz.prog 130 #[.slice la pl lc,.slice a0 (fnAt fs k).p.length c0] W _):=hid7 fun W hb=>rtail7 (T:=(fnAt fs k).p) (tc:=c0) (w:=w) hpl bp hlc rfl (by omega) hb (hp.keep (below_keep hb)) (q1.keep (below_keep hb))
 have HO:Hid (∀ W,Below w.heap.size w W→Lies W (.slice a1 (fnAt fs k).r.length c1) (fnAt fs k).r.length (cellsN (fnAt fs k).r)):=hid7 fun W hb=>(q3.keep (below_keep hb)).lies c1
 have hcl:(cellsN (fnAt fs k).r).length=(fnAt fs k).r.length*1:=cellsN_len _
 have hc1:=hid7 (cellsN_one (fnAt fs k).r)
 have htl:=takeS_le p (fnAt fs k).p
 rw [hpl] at htl
 generalize hTT:takeS p (fnAt fs k).p=TT at HT htl ⊢
 obtain ⟨er,k0⟩:=TT
 simp only at HT htl ⊢
 have hkn:(k:Int)<fs.length:=by omega
 have hk0:(0:Int)≤k:=by omega
 have HE:=hid7 fun W e a c=>rstep_end (p:=p) (O:=(fnAt fs k).r) (w:=w) (W:=W) (e:=e) (a:=a) (n:=k0) (c:=c) (by omega)
 clear hTT hp hf q0 q1 q2 q3
 generalize fs.length=fn at *
 generalize (fnAt fs k).p=T at *
 generalize (fnAt fs k).r=O at *
 generalize T.length=tl at *
 generalize O.length=ol at *
 by_cases h0:er=0
 ·subst h0
  rw [if_pos rfl]
  go_enter Tryz.func90,Tryz.ntmps90
  go_wp2_with (first
   | (go_at_call 108;refine HH.out.mono ?_;clear HH;rintro e W1 ⟨rfl,x1,H1⟩)
   | (go_at_call 127;refine H1.out.mono ?_;clear H1;rintro e W2 ⟨ia,ic,rfl,x2,H2⟩)
   | (go_at_call 128;refine H2.out.mono ?_;clear H2;rintro e W3 ⟨oa,oc,rfl,H3⟩;have f3:=H3.out.1.sc.2;have f4:=H3.out.1.xc.2;obtain ⟨d0,d1,dl⟩:=HC.out W3 H3.out.1.b;clear HC;have H6:=hid7 (HT.out W3 H3.out.1.b);clear HT)
   | (go_at_call 130;refine H6.out.mono ?_;clear H6;rintro e W5 ⟨-,h4'⟩;obtain ⟨a4,c4,rfl,H7⟩:=h4' (by simp);clear h4';have hs4:=H7.out.2.1.size;have hL:=HO.out W5 H7.out.2.1;clear HO)
   | (at_builtin;refine wpList_appN _ rfl _ _ 28 rfl elemN_int w.heap.size _ k0 (cellsN (p.take k0)) rfl H7.out.1 _ rfl ol (cellsN O) hL hcl hc1.out (by unfold maxLen;omega) (by omega) hs4 ?_;intro v' W6 hr5 st5;obtain ⟨va,vc,y5,_⟩:=row_form hr5;subst y5;have K5:=hid7 (And.intro hr5 st5);clear hr5 st5)
   | fail)
  go_ret2
  exact HE.out _ _ _ _ K5.out.1 (H7.out.2.1.trans (K5.out.2.below hs4 fun g e=>(H7.out.1.lt g e).1)) rfl
 ·rw [if_neg h0]
  have hne:(er != 0)=true:=by simpa using h0
  go_enter Tryz.func90,Tryz.ntmps90
  go_wp2_with (first
   | (go_at_call 108;refine HH.out.mono ?_;clear HH;rintro e W1 ⟨rfl,x1,H1⟩)
   | (go_at_call 127;refine H1.out.mono ?_;clear H1;rintro e W2 ⟨ia,ic,rfl,x2,H2⟩)
   | (go_at_call 128;refine H2.out.mono ?_;clear H2;rintro e W3 ⟨oa,oc,rfl,H3⟩;have f3:=H3.out.1.sc.2;have f4:=H3.out.1.xc.2;obtain ⟨d0,d1,dl⟩:=HC.out W3 H3.out.1.b;clear HC;have H6:=hid7 (HT.out W3 H3.out.1.b);clear HT)
   | (go_at_call 130;refine H6.out.mono ?_;clear H6;rintro e W5 ⟨h4',-⟩;obtain ⟨a4,n4,c4,rfl,b5⟩:=h4' h0;clear h4') | fail)
  go_ret2
  exact ⟨none,0,0,rfl,fun h=>absurd h h0,b5⟩
theorem name_ways:∀ k:Fin 54,k.1=0∨k.1=6∨k.1=7∨k.1=8∨k.1=9∨k.1=10∨k.1=53∨(nameTab.getD k.1 []≠[115,101,116]∧nameTab.getD k.1 []≠[103,101,116]∧nameTab.getD k.1 []≠[99,97,108,108]∧nameTab.getD k.1 []≠[100,117,112]∧nameTab.getD k.1 []≠[115,119,97,112]∧nameTab.getD k.1 []≠[111,118,101,114]):=by decide +kernel
theorem name_none {n:Int}(h:n≠6∧n≠7∧n≠8∧n≠9∧n≠10∧n≠53):nameT n≠[115,101,116]∧nameT n≠[103,101,116]∧nameT n≠[99,97,108,108]∧nameT n≠[100,117,112]∧nameT n≠[115,119,97,112]∧nameT n≠[111,118,101,114]:=by
 by_cases hr:n<1∨53<n
 ·rw [show nameT n=[] from rowOf_none _ _ n hr]
  decide
 ·obtain ⟨k,rfl⟩:∃ k:Nat,n=k:=⟨n.toNat,by omega⟩
  rw [show nameT k=nameTab.getD k [] from by unfold nameT rowOf;rw [if_pos (by omega)];simp]
  have hk:k<54:=by omega
  have H:=name_ways ⟨k,hk⟩
  simp only at H
  rcases H with e | e | e | e | e | e | e | e
  ·omega
  ·omega
  ·omega
  ·omega
  ·omega
  ·omega
  ·omega
  ·exact e
theorem rstep7_any {fs:List Fn}{g:Fn}(x:Int × Int)(hx:InsR fs (g.p++g.l) x)(p:List Int)(V0 w0 w1 w2 w3:Value)(fa:Option Addr)(fc:Nat)(la:Option Addr)(pl lc:Nat)(hpl:p.length=pl)(bp:pl≤1000)(hlc:pl≤lc)(w:World)(hp:NsAt w.cell? la p)(hf:FsAt w.cell? fa fs)(hg:FnIs w.cell? g w0 w1 w2 w3)(hgf:g.fits)(bsl:(g.p++g.l).length≤1000)(bf:fs.length≤1000)(hh:HeadsR fs) :
  Calls Tryz.prog 90 #[.agg #[V0,.slice fa fs.length fc],.agg #[w0,w1,w2,w3],.agg #[.int .i64 x.1,.int .i64 x.2],.slice la pl lc] w (RStepEnd (stepW fs (g.p++g.l) x p) w):=by
 obtain ⟨n,A⟩:=x
 simp only
 unfold stepW
 by_cases h6:n=6
 ·subst h6
  have e1:takenS fs (g.p++g.l) (6,A)=[0]:=by simp [takenS];decide
  rw [e1]
  simpa [givenS] using rstep_dup A p V0 (.slice fa fs.length fc) w0 w1 w2 w3 la pl lc hpl bp hlc w hp
 by_cases h7:n=7
 ·subst h7
  have e1:takenS fs (g.p++g.l) (7,A)=[0,0]:=by simp [takenS];decide
  rw [e1]
  have:=rstep_swap A p V0 (.slice fa fs.length fc) w0 w1 w2 w3 la pl lc hpl bp hlc w hp
  simpa only [givenS,if_pos,show ((7:Int)=6)=False by simp,if_false] using this
 by_cases h8:n=8
 ·subst h8
  have e1:takenS fs (g.p++g.l) (8,A)=[0,0]:=by simp [takenS];decide
  rw [e1]
  have:=rstep_over A p V0 (.slice fa fs.length fc) w0 w1 w2 w3 la pl lc hpl bp hlc w hp
  simpa only [givenS,if_pos,show ((8:Int)=6)=False by simp,show ((8:Int)=7)=False by simp,if_false] using this
 by_cases h9:n=9
 ·subst h9
  obtain ⟨g1,g2⟩:=hx.1 (.inl rfl)
  simp only at g1 g2
  obtain ⟨k,rfl⟩:∃ k:Nat,A=k:=⟨A.toNat,by omega⟩
  have e1:takenS fs (g.p++g.l) (9,(k:Int))=[]:=by simp [takenS];decide
  have e2:givenS fs (g.p++g.l) (9,(k:Int)) (p.drop p.length)=[(g.p++g.l).getD k 0]:=by simp [givenS]
  rw [e1,show takeS p []=(0,p.length) by simp [takeS,tkS],if_pos rfl,e2,List.take_length]
  exact rstep_get k g p V0 _ w0 w1 w2 w3 la pl lc hpl bp hlc w hp hg hgf (by omega) bsl
 by_cases h10:n=10
 ·subst h10
  obtain ⟨g1,g2⟩:=hx.1 (.inr rfl)
  simp only at g1 g2
  obtain ⟨k,rfl⟩:∃ k:Nat,A=k:=⟨A.toNat,by omega⟩
  have e1:takenS fs (g.p++g.l) (10,(k:Int))=[(g.p++g.l).getD k 0]:=by simp [takenS]
  have e2:∀ had,givenS fs (g.p++g.l) (10,(k:Int)) had=[]:=fun had=>by simp [givenS];decide
  rw [e1,e2]
  exact rstep_set k g p V0 _ w0 w1 w2 w3 la pl lc hpl bp hlc w hp hg hgf (by omega) bsl
 by_cases h53:n=53
 ·subst h53
  obtain ⟨g1,g2⟩:=hx.2 rfl
  simp only at g1 g2
  obtain ⟨k,rfl⟩:∃ k:Nat,A=k:=⟨A.toNat,by omega⟩
  have e1:takenS fs (g.p++g.l) (53,(k:Int))=(fnAt fs k).p:=by simp [takenS]
  have e2:∀ had,givenS fs (g.p++g.l) (53,(k:Int)) had=(fnAt fs k).r:=fun had=>by simp [givenS]
  rw [e1,e2]
  obtain ⟨q1,q2⟩:=fnAt_le hh (k:Int)
  exact rstep_call k fs p V0 w0 w1 w2 w3 fa fc la pl lc hpl bp hlc w hp hf (by omega) bf q1 q2
 ·have e1:takenS fs (g.p++g.l) (n,A)=inT n:=by simp [takenS,h10,h53]
  have e2:∀ had,givenS fs (g.p++g.l) (n,A) had=outT n:=fun had=>by simp [givenS,h6,h7,h8,h9,h53]
  rw [e1,e2]
  exact rstep_plain n A p V0 _ w0 w1 w2 w3 la pl lc hpl bp hlc w hp (inT_le n) (outT_le n) (name_none ⟨h6,h7,h8,h9,h10,h53⟩)
end Go.Proofs.YtpmlnkjamhelnaaGreat
