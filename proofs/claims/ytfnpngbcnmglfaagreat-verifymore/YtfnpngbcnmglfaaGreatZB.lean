/- Layer 10: the steps that call one function of the script and note its answer. Layer 10: the first step: whether the script may be, and its copy. Layer 10: the rooms. Layer 10: the last step: the rooms are noted. -/
import Derived.Test.YtfnpngbcnmglfaaGreatYR
import Derived.Test.YtfnpngbcnmglfaaGreatCS
namespace Go.Proofs.YtfnpngbcnmglfaaGreat
open Go.RowKit
set_option maxRecDepth 100000 in
set_option maxHeartbeats 2000000 in
theorem step2_gen (P : Option Addr → Nat → Nat → World → Prop) (er : Int) (a0 a1 : Option Addr) (n0 c0 n1 c1 : Nat) (w : World) (db sb pb : Nat) (D : List Value) (W : World) (hS : St10 w db sb pb (.slice a0 n0 c0) (.slice a1 n1 c1) D W) (hD : D.length = 8)
    (hA : ∀ W0, Below W.heap.size W W0 → Calls Tryz.prog 24 #[.agg #[.slice a0 n0 c0, .slice a1 n1 c1]] W0 fun e W1 => ∃ a n c, e = .returned (.tuple #[(.slice a n c), .int .i64 er]) ∧ Below W0.heap.size W0 W1 ∧ P a n c W1) :
    Calls Tryz.prog 65 #[.pointer (some ⟨sb, 0, none⟩), .pointer (some ⟨pb, 0, none⟩)] W fun e W' => ∃ (a : Option Addr) (n c : Nat) (W1 : World), e = .returned (.int .i64 er) ∧ Below W.heap.size W W1 ∧ W' = W1.setCell ⟨db, 3, none⟩ (.slice a n c) ∧ St10 w db sb pb (.slice a0 n0 c0) (.slice a1 n1 c1) (D.set 3 (.slice a n c)) W' ∧ P a n c W1 := by
  obtain ⟨x0, x1, x2⟩ := hS.cells
  have HA : Hid (Calls Tryz.prog 24 #[.agg #[.slice a0 n0 c0, .slice a1 n1 c1]] W.drew fun e W1 => ∃ a n c, e = .returned (.tuple #[(.slice a n c), .int .i64 er]) ∧ (∃ u, W1.cell? ⟨db, 3, none⟩ = some u) ∧ W1.frozen? ⟨db, 3, none⟩ = false ∧ (W1.cell? ⟨sb, 0, none⟩ = some (.slice a0 n0 c0) ∧ W1.cell? ⟨sb, 1, none⟩ = some (.slice a1 n1 c1) ∧ W1.cell? ⟨pb, 0, none⟩ = some (.pointer (some ⟨db, 0, none⟩))) ∧ Hid (Below W.heap.size W W1 ∧ St10 w db sb pb (.slice a0 n0 c0) (.slice a1 n1 c1) D W1 ∧ P a n c W1)) := hid9 (by
    have hb0 : Below W.heap.size W W.drew := (Below.refl _ _).drew
    refine (hA _ hb0).mono fun e W1 h => ?_
    obtain ⟨a, n, c, e1, h2, h3⟩ := h
    have hb1 : Below W.heap.size W W1 := hb0.trans (h2.mono hb0.size)
    have hS1 := hS.off hb1
    exact ⟨a, n, c, e1, ⟨_, hS1.at (i := 3) (List.getElem?_eq_getElem (by omega))⟩, hS1.fz 3, hS1.cells, hid9 ⟨hb1, hS1, h3⟩⟩)
  clear hA hS hD
  go_enter Tryz.func65, Tryz.ntmps65
  go_wp2_with fail
  go_region_held3 (fun W => W.cell? ⟨sb, 0, none⟩ = some (.slice a0 n0 c0) ∧ W.cell? ⟨sb, 1, none⟩ = some (.slice a1 n1 c1) ∧ W.cell? ⟨pb, 0, none⟩ = some (.pointer (some ⟨db, 0, none⟩))) (first | exact ⟨x0, x1, x2⟩ | exact ⟨y0, y1, y2⟩ | exact hset _ | go_keep) (first
    | (go_at_call 24; refine HA.out.mono ?_; clear HA; rintro e W1 ⟨a, n, c, rfl, ⟨u, g1⟩, f1, ⟨y0, y1, y2⟩, HW⟩; have hset : ∀ u, (W1.setCell ⟨db, 3, none⟩ u).cell? ⟨sb, 0, none⟩ = some (.slice a0 n0 c0) ∧ (W1.setCell ⟨db, 3, none⟩ u).cell? ⟨sb, 1, none⟩ = some (.slice a1 n1 c1) ∧ (W1.setCell ⟨db, 3, none⟩ u).cell? ⟨pb, 0, none⟩ = some (.pointer (some ⟨db, 0, none⟩)) := fun u => (HW.out.2.1.set 3 u).cells))
  all_goals
    go_wp2_with fail
    go_ret
    exact ⟨a, n, c, W1, rfl, HW.out.1, rfl, HW.out.2.1.set 3 _, HW.out.2.2⟩
set_option maxRecDepth 100000 in
set_option maxHeartbeats 2000000 in
theorem step3_gen (P : Option Addr → Nat → Nat → World → Prop) (er : Int) (a0 a1 : Option Addr) (n0 c0 n1 c1 : Nat) (w : World) (db sb pb : Nat) (D : List Value) (W : World) (hS : St10 w db sb pb (.slice a0 n0 c0) (.slice a1 n1 c1) D W) (hD : D.length = 8)
    (hA : ∀ W0, Below W.heap.size W W0 → Calls Tryz.prog 25 #[.agg #[.slice a0 n0 c0, .slice a1 n1 c1]] W0 fun e W1 => ∃ a n c, e = .returned (.tuple #[(.slice a n c), .int .i64 er]) ∧ Below W0.heap.size W0 W1 ∧ P a n c W1) :
    Calls Tryz.prog 66 #[.pointer (some ⟨sb, 0, none⟩), .pointer (some ⟨pb, 0, none⟩)] W fun e W' => ∃ (a : Option Addr) (n c : Nat) (W1 : World), e = .returned (.int .i64 er) ∧ Below W.heap.size W W1 ∧ W' = W1.setCell ⟨db, 5, none⟩ (.slice a n c) ∧ St10 w db sb pb (.slice a0 n0 c0) (.slice a1 n1 c1) (D.set 5 (.slice a n c)) W' ∧ P a n c W1 := by
  obtain ⟨x0, x1, x2⟩ := hS.cells
  have HA : Hid (Calls Tryz.prog 25 #[.agg #[.slice a0 n0 c0, .slice a1 n1 c1]] W.drew fun e W1 => ∃ a n c, e = .returned (.tuple #[(.slice a n c), .int .i64 er]) ∧ (∃ u, W1.cell? ⟨db, 5, none⟩ = some u) ∧ W1.frozen? ⟨db, 5, none⟩ = false ∧ (W1.cell? ⟨sb, 0, none⟩ = some (.slice a0 n0 c0) ∧ W1.cell? ⟨sb, 1, none⟩ = some (.slice a1 n1 c1) ∧ W1.cell? ⟨pb, 0, none⟩ = some (.pointer (some ⟨db, 0, none⟩))) ∧ Hid (Below W.heap.size W W1 ∧ St10 w db sb pb (.slice a0 n0 c0) (.slice a1 n1 c1) D W1 ∧ P a n c W1)) := hid9 (by
    have hb0 : Below W.heap.size W W.drew := (Below.refl _ _).drew
    refine (hA _ hb0).mono fun e W1 h => ?_
    obtain ⟨a, n, c, e1, h2, h3⟩ := h
    have hb1 : Below W.heap.size W W1 := hb0.trans (h2.mono hb0.size)
    have hS1 := hS.off hb1
    exact ⟨a, n, c, e1, ⟨_, hS1.at (i := 5) (List.getElem?_eq_getElem (by omega))⟩, hS1.fz 5, hS1.cells, hid9 ⟨hb1, hS1, h3⟩⟩)
  clear hA hS hD
  go_enter Tryz.func66, Tryz.ntmps66
  go_wp2_with fail
  go_region_held3 (fun W => W.cell? ⟨sb, 0, none⟩ = some (.slice a0 n0 c0) ∧ W.cell? ⟨sb, 1, none⟩ = some (.slice a1 n1 c1) ∧ W.cell? ⟨pb, 0, none⟩ = some (.pointer (some ⟨db, 0, none⟩))) (first | exact ⟨x0, x1, x2⟩ | exact ⟨y0, y1, y2⟩ | exact hset _ | go_keep) (first
    | (go_at_call 25; refine HA.out.mono ?_; clear HA; rintro e W1 ⟨a, n, c, rfl, ⟨u, g1⟩, f1, ⟨y0, y1, y2⟩, HW⟩; have hset : ∀ u, (W1.setCell ⟨db, 5, none⟩ u).cell? ⟨sb, 0, none⟩ = some (.slice a0 n0 c0) ∧ (W1.setCell ⟨db, 5, none⟩ u).cell? ⟨sb, 1, none⟩ = some (.slice a1 n1 c1) ∧ (W1.setCell ⟨db, 5, none⟩ u).cell? ⟨pb, 0, none⟩ = some (.pointer (some ⟨db, 0, none⟩)) := fun u => (HW.out.2.1.set 5 u).cells))
  all_goals
    go_wp2_with fail
    go_ret
    exact ⟨a, n, c, W1, rfl, HW.out.1, rfl, HW.out.2.1.set 5 _, HW.out.2.2⟩
set_option maxRecDepth 100000 in
set_option maxHeartbeats 2000000 in
theorem step4_gen (P : Int → World → Prop) (er : Int) (a0 a1 : Option Addr) (n0 c0 n1 c1 : Nat) (w : World) (db sb pb : Nat) (D : List Value) (W : World) (hS : St10 w db sb pb (.slice a0 n0 c0) (.slice a1 n1 c1) D W) (hD : D.length = 8)
    (hA : ∀ W0, Below W.heap.size W W0 → Calls Tryz.prog 26 #[.agg #[.slice a0 n0 c0, .slice a1 n1 c1]] W0 fun e W1 => ∃ n : Int, e = .returned (.tuple #[(.int .i64 n), .int .i64 er]) ∧ Below W0.heap.size W0 W1 ∧ P n W1) :
    Calls Tryz.prog 67 #[.pointer (some ⟨sb, 0, none⟩), .pointer (some ⟨pb, 0, none⟩)] W fun e W' => ∃ (n : Int) (W1 : World), e = .returned (.int .i64 er) ∧ Below W.heap.size W W1 ∧ W' = W1.setCell ⟨db, 2, none⟩ (.int .i64 n) ∧ St10 w db sb pb (.slice a0 n0 c0) (.slice a1 n1 c1) (D.set 2 (.int .i64 n)) W' ∧ P n W1 := by
  obtain ⟨x0, x1, x2⟩ := hS.cells
  have HA : Hid (Calls Tryz.prog 26 #[.agg #[.slice a0 n0 c0, .slice a1 n1 c1]] W.drew fun e W1 => ∃ n : Int, e = .returned (.tuple #[(.int .i64 n), .int .i64 er]) ∧ (∃ u, W1.cell? ⟨db, 2, none⟩ = some u) ∧ W1.frozen? ⟨db, 2, none⟩ = false ∧ (W1.cell? ⟨sb, 0, none⟩ = some (.slice a0 n0 c0) ∧ W1.cell? ⟨sb, 1, none⟩ = some (.slice a1 n1 c1) ∧ W1.cell? ⟨pb, 0, none⟩ = some (.pointer (some ⟨db, 0, none⟩))) ∧ Hid (Below W.heap.size W W1 ∧ St10 w db sb pb (.slice a0 n0 c0) (.slice a1 n1 c1) D W1 ∧ P n W1)) := hid9 (by
    have hb0 : Below W.heap.size W W.drew := (Below.refl _ _).drew
    refine (hA _ hb0).mono fun e W1 h => ?_
    obtain ⟨n, e1, h2, h3⟩ := h
    have hb1 : Below W.heap.size W W1 := hb0.trans (h2.mono hb0.size)
    have hS1 := hS.off hb1
    exact ⟨n, e1, ⟨_, hS1.at (i := 2) (List.getElem?_eq_getElem (by omega))⟩, hS1.fz 2, hS1.cells, hid9 ⟨hb1, hS1, h3⟩⟩)
  clear hA hS hD
  go_enter Tryz.func67, Tryz.ntmps67
  go_wp2_with fail
  go_region_held3 (fun W => W.cell? ⟨sb, 0, none⟩ = some (.slice a0 n0 c0) ∧ W.cell? ⟨sb, 1, none⟩ = some (.slice a1 n1 c1) ∧ W.cell? ⟨pb, 0, none⟩ = some (.pointer (some ⟨db, 0, none⟩))) (first | exact ⟨x0, x1, x2⟩ | exact ⟨y0, y1, y2⟩ | exact hset _ | go_keep) (first
    | (go_at_call 26; refine HA.out.mono ?_; clear HA; rintro e W1 ⟨n, rfl, ⟨u, g1⟩, f1, ⟨y0, y1, y2⟩, HW⟩; have hset : ∀ u, (W1.setCell ⟨db, 2, none⟩ u).cell? ⟨sb, 0, none⟩ = some (.slice a0 n0 c0) ∧ (W1.setCell ⟨db, 2, none⟩ u).cell? ⟨sb, 1, none⟩ = some (.slice a1 n1 c1) ∧ (W1.setCell ⟨db, 2, none⟩ u).cell? ⟨pb, 0, none⟩ = some (.pointer (some ⟨db, 0, none⟩)) := fun u => (HW.out.2.1.set 2 u).cells))
  all_goals
    go_wp2_with fail
    go_ret
    exact ⟨n, W1, rfl, HW.out.1, rfl, HW.out.2.1.set 2 _, HW.out.2.2⟩
set_option maxRecDepth 100000 in
set_option maxHeartbeats 2000000 in
theorem step5_gen (P : Option Addr → Nat → Nat → World → Prop) (er : Int) (a0 a1 : Option Addr) (n0 c0 n1 c1 : Nat) (w : World) (db sb pb : Nat) (D : List Value) (W : World) (hS : St10 w db sb pb (.slice a0 n0 c0) (.slice a1 n1 c1) D W) (hD : D.length = 8)
    (hA : ∀ W0, Below W.heap.size W W0 → Calls Tryz.prog 69 #[.agg #[.slice a0 n0 c0, .slice a1 n1 c1]] W0 fun e W1 => ∃ a n c, e = .returned (.tuple #[(.slice a n c), .int .i64 er]) ∧ Below W0.heap.size W0 W1 ∧ P a n c W1) :
    Calls Tryz.prog 68 #[.pointer (some ⟨sb, 0, none⟩), .pointer (some ⟨pb, 0, none⟩)] W fun e W' => ∃ (a : Option Addr) (n c : Nat) (W1 : World), e = .returned (.int .i64 er) ∧ Below W.heap.size W W1 ∧ W' = W1.setCell ⟨db, 4, none⟩ (.slice a n c) ∧ St10 w db sb pb (.slice a0 n0 c0) (.slice a1 n1 c1) (D.set 4 (.slice a n c)) W' ∧ P a n c W1 := by
  obtain ⟨x0, x1, x2⟩ := hS.cells
  have HA : Hid (Calls Tryz.prog 69 #[.agg #[.slice a0 n0 c0, .slice a1 n1 c1]] W.drew fun e W1 => ∃ a n c, e = .returned (.tuple #[(.slice a n c), .int .i64 er]) ∧ (∃ u, W1.cell? ⟨db, 4, none⟩ = some u) ∧ W1.frozen? ⟨db, 4, none⟩ = false ∧ (W1.cell? ⟨sb, 0, none⟩ = some (.slice a0 n0 c0) ∧ W1.cell? ⟨sb, 1, none⟩ = some (.slice a1 n1 c1) ∧ W1.cell? ⟨pb, 0, none⟩ = some (.pointer (some ⟨db, 0, none⟩))) ∧ Hid (Below W.heap.size W W1 ∧ St10 w db sb pb (.slice a0 n0 c0) (.slice a1 n1 c1) D W1 ∧ P a n c W1)) := hid9 (by
    have hb0 : Below W.heap.size W W.drew := (Below.refl _ _).drew
    refine (hA _ hb0).mono fun e W1 h => ?_
    obtain ⟨a, n, c, e1, h2, h3⟩ := h
    have hb1 : Below W.heap.size W W1 := hb0.trans (h2.mono hb0.size)
    have hS1 := hS.off hb1
    exact ⟨a, n, c, e1, ⟨_, hS1.at (i := 4) (List.getElem?_eq_getElem (by omega))⟩, hS1.fz 4, hS1.cells, hid9 ⟨hb1, hS1, h3⟩⟩)
  clear hA hS hD
  go_enter Tryz.func68, Tryz.ntmps68
  go_wp2_with fail
  go_region_held3 (fun W => W.cell? ⟨sb, 0, none⟩ = some (.slice a0 n0 c0) ∧ W.cell? ⟨sb, 1, none⟩ = some (.slice a1 n1 c1) ∧ W.cell? ⟨pb, 0, none⟩ = some (.pointer (some ⟨db, 0, none⟩))) (first | exact ⟨x0, x1, x2⟩ | exact ⟨y0, y1, y2⟩ | exact hset _ | go_keep) (first
    | (go_at_call 69; refine HA.out.mono ?_; clear HA; rintro e W1 ⟨a, n, c, rfl, ⟨u, g1⟩, f1, ⟨y0, y1, y2⟩, HW⟩; have hset : ∀ u, (W1.setCell ⟨db, 4, none⟩ u).cell? ⟨sb, 0, none⟩ = some (.slice a0 n0 c0) ∧ (W1.setCell ⟨db, 4, none⟩ u).cell? ⟨sb, 1, none⟩ = some (.slice a1 n1 c1) ∧ (W1.setCell ⟨db, 4, none⟩ u).cell? ⟨pb, 0, none⟩ = some (.pointer (some ⟨db, 0, none⟩)) := fun u => (HW.out.2.1.set 4 u).cells))
  all_goals
    go_wp2_with fail
    go_ret
    exact ⟨a, n, c, W1, rfl, HW.out.1, rfl, HW.out.2.1.set 4 _, HW.out.2.2⟩
set_option maxRecDepth 100000 in
set_option maxHeartbeats 2000000 in
theorem step6_gen (P : Option Addr → Nat → Nat → World → Prop) (er : Int) (a0 a1 : Option Addr) (n0 c0 n1 c1 : Nat) (w : World) (db sb pb : Nat) (D : List Value) (W : World) (hS : St10 w db sb pb (.slice a0 n0 c0) (.slice a1 n1 c1) D W) (hD : D.length = 8)
    (hA : ∀ W0, Below W.heap.size W W0 → Calls Tryz.prog 28 #[.agg #[.slice a0 n0 c0, .slice a1 n1 c1]] W0 fun e W1 => ∃ a n c, e = .returned (.tuple #[(.slice a n c), .int .i64 er]) ∧ Below W0.heap.size W0 W1 ∧ P a n c W1) :
    Calls Tryz.prog 70 #[.pointer (some ⟨sb, 0, none⟩), .pointer (some ⟨pb, 0, none⟩)] W fun e W' => ∃ (a : Option Addr) (n c : Nat) (W1 : World), e = .returned (.int .i64 er) ∧ Below W.heap.size W W1 ∧ W' = W1.setCell ⟨db, 7, none⟩ (.slice a n c) ∧ St10 w db sb pb (.slice a0 n0 c0) (.slice a1 n1 c1) (D.set 7 (.slice a n c)) W' ∧ P a n c W1 := by
  obtain ⟨x0, x1, x2⟩ := hS.cells
  have HA : Hid (Calls Tryz.prog 28 #[.agg #[.slice a0 n0 c0, .slice a1 n1 c1]] W.drew fun e W1 => ∃ a n c, e = .returned (.tuple #[(.slice a n c), .int .i64 er]) ∧ (∃ u, W1.cell? ⟨db, 7, none⟩ = some u) ∧ W1.frozen? ⟨db, 7, none⟩ = false ∧ (W1.cell? ⟨sb, 0, none⟩ = some (.slice a0 n0 c0) ∧ W1.cell? ⟨sb, 1, none⟩ = some (.slice a1 n1 c1) ∧ W1.cell? ⟨pb, 0, none⟩ = some (.pointer (some ⟨db, 0, none⟩))) ∧ Hid (Below W.heap.size W W1 ∧ St10 w db sb pb (.slice a0 n0 c0) (.slice a1 n1 c1) D W1 ∧ P a n c W1)) := hid9 (by
    have hb0 : Below W.heap.size W W.drew := (Below.refl _ _).drew
    refine (hA _ hb0).mono fun e W1 h => ?_
    obtain ⟨a, n, c, e1, h2, h3⟩ := h
    have hb1 : Below W.heap.size W W1 := hb0.trans (h2.mono hb0.size)
    have hS1 := hS.off hb1
    exact ⟨a, n, c, e1, ⟨_, hS1.at (i := 7) (List.getElem?_eq_getElem (by omega))⟩, hS1.fz 7, hS1.cells, hid9 ⟨hb1, hS1, h3⟩⟩)
  clear hA hS hD
  go_enter Tryz.func70, Tryz.ntmps70
  go_wp2_with fail
  go_region_held3 (fun W => W.cell? ⟨sb, 0, none⟩ = some (.slice a0 n0 c0) ∧ W.cell? ⟨sb, 1, none⟩ = some (.slice a1 n1 c1) ∧ W.cell? ⟨pb, 0, none⟩ = some (.pointer (some ⟨db, 0, none⟩))) (first | exact ⟨x0, x1, x2⟩ | exact ⟨y0, y1, y2⟩ | exact hset _ | go_keep) (first
    | (go_at_call 28; refine HA.out.mono ?_; clear HA; rintro e W1 ⟨a, n, c, rfl, ⟨u, g1⟩, f1, ⟨y0, y1, y2⟩, HW⟩; have hset : ∀ u, (W1.setCell ⟨db, 7, none⟩ u).cell? ⟨sb, 0, none⟩ = some (.slice a0 n0 c0) ∧ (W1.setCell ⟨db, 7, none⟩ u).cell? ⟨sb, 1, none⟩ = some (.slice a1 n1 c1) ∧ (W1.setCell ⟨db, 7, none⟩ u).cell? ⟨pb, 0, none⟩ = some (.pointer (some ⟨db, 0, none⟩)) := fun u => (HW.out.2.1.set 7 u).cells))
  all_goals
    go_wp2_with fail
    go_ret
    exact ⟨a, n, c, W1, rfl, HW.out.1, rfl, HW.out.2.1.set 7 _, HW.out.2.2⟩
end Go.Proofs.YtfnpngbcnmglfaaGreat
namespace Go.Proofs.YtfnpngbcnmglfaaGreat
open Go.RowKit
set_option maxRecDepth 100000 in
set_option maxHeartbeats 2000000 in
theorem step1_no (a0 a1 : Option Addr) (n0 c0 n1 c1 : Nat) (w : World) (db sb pb : Nat) (D : List Value) (W : World) (hS : St10 w db sb pb (.slice a0 n0 c0) (.slice a1 n1 c1) D W)
    (hR : ∀ W0, Below W.heap.size W W0 → Calls Tryz.prog 39 #[.agg #[.slice a0 n0 c0, .slice a1 n1 c1]] W0 fun e W1 => e = .returned (.bool false) ∧ Below W0.heap.size W0 W1) :
    Calls Tryz.prog 63 #[.pointer (some ⟨sb, 0, none⟩), .pointer (some ⟨pb, 0, none⟩)] W fun e W' => e = .returned (.int .i64 30) ∧ Below W.heap.size W W' := by
  obtain ⟨x0, x1, x2⟩ := hS.cells
  have HR : Hid (∀ W0, Below W.heap.size W W0 → Calls Tryz.prog 39 #[.agg #[.slice a0 n0 c0, .slice a1 n1 c1]] W0 fun e W1 => e = .returned (.bool false) ∧ Hid (Below W.heap.size W W1)) := hid9 fun W0 hb => (hR W0 hb).mono fun e W1 ⟨h1, h2⟩ => ⟨h1, hid9 (hb.trans (h2.mono hb.size))⟩
  clear hR hS
  go_enter Tryz.func63, Tryz.ntmps63
  go_wp2_with (first
    | (go_at_call 39; refine (HR.out _ (Below.refl _ _)).mono ?_; clear HR; rintro e W1 ⟨rfl, HB⟩)
    | fail)
  go_ret
  exact ⟨rfl, HB.out⟩
set_option maxRecDepth 100000 in
set_option maxHeartbeats 2000000 in
theorem step1_yes (P : Value → Value → Nat → World → Prop) (a0 a1 : Option Addr) (n0 c0 n1 c1 : Nat) (w : World) (db sb pb : Nat) (D : List Value) (W : World) (hS : St10 w db sb pb (.slice a0 n0 c0) (.slice a1 n1 c1) D W) (hD : D.length = 8)
    (hR : ∀ W0, Below W.heap.size W W0 → Calls Tryz.prog 39 #[.agg #[.slice a0 n0 c0, .slice a1 n1 c1]] W0 fun e W1 => e = .returned (.bool true) ∧ Below W0.heap.size W0 W1)
    (hC : ∀ W0, Below W.heap.size W W0 → Calls Tryz.prog 64 #[.agg #[.slice a0 n0 c0, .slice a1 n1 c1]] W0 fun e W1 => ∃ b0 m0 d0 b1 m1 d1, e = .returned (.agg #[.slice b0 m0 d0, .slice b1 m1 d1]) ∧ Below W0.heap.size W0 W1 ∧ P (.slice b0 m0 d0) (.slice b1 m1 d1) W0.heap.size W1) :
    Calls Tryz.prog 63 #[.pointer (some ⟨sb, 0, none⟩), .pointer (some ⟨pb, 0, none⟩)] W fun e W' => ∃ (b0 b1 : Option Addr) (m0 d0 m1 d1 B : Nat) (W1 : World), e = .returned (.int .i64 0) ∧ Below W.heap.size W W1 ∧ W.heap.size ≤ B ∧ W' = (W1.setCell ⟨db, 0, none⟩ (.slice b0 m0 d0)).setCell ⟨db, 1, none⟩ (.slice b1 m1 d1) ∧ St10 w db sb pb (.slice a0 n0 c0) (.slice a1 n1 c1) ((D.set 0 (.slice b0 m0 d0)).set 1 (.slice b1 m1 d1)) W' ∧ P (.slice b0 m0 d0) (.slice b1 m1 d1) B W1 := by
  obtain ⟨x0, x1, x2⟩ := hS.cells
  have HR : Hid (∀ W0, Below W.heap.size W W0 → Calls Tryz.prog 39 #[.agg #[.slice a0 n0 c0, .slice a1 n1 c1]] W0 fun e W1 => e = .returned (.bool true) ∧ (W1.cell? ⟨sb, 0, none⟩ = some (.slice a0 n0 c0) ∧ W1.cell? ⟨sb, 1, none⟩ = some (.slice a1 n1 c1) ∧ W1.cell? ⟨pb, 0, none⟩ = some (.pointer (some ⟨db, 0, none⟩))) ∧ Hid (Below W.heap.size W W1)) := hid9 fun W0 hb => (hR W0 hb).mono fun e W1 ⟨h1, h2⟩ => by
    have hb1 := hb.trans (h2.mono hb.size)
    exact ⟨h1, (hS.off hb1).cells, hid9 hb1⟩
  have HC : Hid (∀ W0, Below W.heap.size W W0 → Calls Tryz.prog 64 #[.agg #[.slice a0 n0 c0, .slice a1 n1 c1]] W0 fun e W1 => ∃ b0 m0 d0 b1 m1 d1, e = .returned (.agg #[.slice b0 m0 d0, .slice b1 m1 d1]) ∧ ((∃ u, W1.cell? ⟨db, 0, none⟩ = some u) ∧ ∃ u, W1.cell? ⟨db, 1, none⟩ = some u) ∧ (W1.frozen? ⟨db, 0, none⟩ = false ∧ W1.frozen? ⟨db, 1, none⟩ = false) ∧ (W1.cell? ⟨sb, 0, none⟩ = some (.slice a0 n0 c0) ∧ W1.cell? ⟨sb, 1, none⟩ = some (.slice a1 n1 c1) ∧ W1.cell? ⟨pb, 0, none⟩ = some (.pointer (some ⟨db, 0, none⟩))) ∧ Hid (Below W.heap.size W W1 ∧ St10 w db sb pb (.slice a0 n0 c0) (.slice a1 n1 c1) D W1 ∧ W.heap.size ≤ W0.heap.size ∧ P (.slice b0 m0 d0) (.slice b1 m1 d1) W0.heap.size W1)) := hid9 fun W0 hb => (hC W0 hb).mono fun e W1 ⟨b0, m0, d0, b1, m1, d1, e1, h2, h3⟩ => by
    have hb1 := hb.trans (h2.mono hb.size)
    have hS1 := hS.off hb1
    exact ⟨b0, m0, d0, b1, m1, d1, e1, ⟨⟨_, hS1.at (i := 0) (List.getElem?_eq_getElem (by omega))⟩, ⟨_, hS1.at (i := 1) (List.getElem?_eq_getElem (by omega))⟩⟩, ⟨hS1.fz 0, hS1.fz 1⟩, hS1.cells, hid9 ⟨hb1, hS1, hb.size, h3⟩⟩
  clear hR hC hS hD
  go_enter Tryz.func63, Tryz.ntmps63
  go_wp2_with (first
    | (go_at_call 39; refine (HR.out _ (Below.refl _ _)).mono ?_; clear HR; rintro e W1 ⟨rfl, ⟨y0, y1, y2⟩, HB⟩)
    | fail)
  have HC2 := hid9 (HC.out _ (HB.out.trans ((Below.refl _ W1).drew.mono HB.out.size)))
  clear HC
  go_region_held3 (fun W => W.cell? ⟨sb, 0, none⟩ = some (.slice a0 n0 c0) ∧ W.cell? ⟨sb, 1, none⟩ = some (.slice a1 n1 c1) ∧ W.cell? ⟨pb, 0, none⟩ = some (.pointer (some ⟨db, 0, none⟩))) (first | exact ⟨y0, y1, y2⟩ | exact ⟨z0, z1, z2⟩ | exact hset _ _ | go_keep) (first
    | (go_at_call 64; refine HC2.out.mono ?_; clear HC2; rintro e W2 ⟨b0, m0, d0, b1, m1, d1, rfl, ⟨⟨u0, g0⟩, ⟨u1, g1⟩⟩, ⟨f0, f1⟩, ⟨z0, z1, z2⟩, HW⟩; have hset : ∀ u v, ((W2.setCell ⟨db, 0, none⟩ u).setCell ⟨db, 1, none⟩ v).cell? ⟨sb, 0, none⟩ = some (.slice a0 n0 c0) ∧ ((W2.setCell ⟨db, 0, none⟩ u).setCell ⟨db, 1, none⟩ v).cell? ⟨sb, 1, none⟩ = some (.slice a1 n1 c1) ∧ ((W2.setCell ⟨db, 0, none⟩ u).setCell ⟨db, 1, none⟩ v).cell? ⟨pb, 0, none⟩ = some (.pointer (some ⟨db, 0, none⟩)) := fun u v => ((HW.out.2.1.set 0 u).set 1 v).cells))
  all_goals
    go_wp2_with fail
    go_ret
    exact ⟨b0, b1, m0, d0, m1, d1, _, W2, rfl, HW.out.1, HW.out.2.2.1, rfl, (HW.out.2.1.set 0 _).set 1 _, HW.out.2.2.2⟩
end Go.Proofs.YtfnpngbcnmglfaaGreat
namespace Go.Proofs.YtfnpngbcnmglfaaGreat
open Go.RowKit
def fnN (s : Scr) (f : Nat) : Nat := match s.funcs[f]? with | some g => g.p.length + g.l.length | none => 0
/-- The greatest room of those that are called. -/
def rmMax (R : List Int) (cs : List Nat) : Int := cs.foldl (fun b c => max b (R.getD c 0)) 0
def rmStep (s : Scr) (S : List Int) (R : List Int) (f : Nat) : List Int := R.set f ((fnN s f : Int) + S.getD f 0 + rmMax R (gF s f))
def roomsS (s : Scr) (S : List Int) (o : List Nat) : List Int := o.foldl (rmStep s S) (List.replicate s.funcs.length 0)
theorem rooms_len (s : Scr) (S : List Int) (o : List Nat) : (roomsS s S o).length = s.funcs.length := by
  have : ∀ (o : List Nat) (B : List Int), (o.foldl (rmStep s S) B).length = B.length := by
    intro o
    induction o with
    | nil => intro B; rfl
    | cons f o ih => intro B; rw [List.foldl_cons, ih]; simp [rmStep]
  rw [roomsS, this]; simp
theorem rooms_snoc (s : Scr) (S : List Int) (o : List Nat) (f : Nat) : roomsS s S (o ++ [f]) = rmStep s S (roomsS s S o) f := by simp [roomsS, List.foldl_append]
def OkR (k : Nat) (R : List Int) : Prop := ∀ z ∈ R, 0 ≤ z ∧ z ≤ (k : Int) * 2000000
theorem okR_get {k : Nat} {R : List Int} (h : OkR k R) (c : Nat) : 0 ≤ R.getD c 0 ∧ R.getD c 0 ≤ (k : Int) * 2000000 := by
  rw [List.getD_eq_getElem?_getD]
  cases e : R[c]? with
  | none => simp; omega
  | some z => exact h z (List.mem_of_getElem? e)
theorem rmMax_in {k : Nat} {R : List Int} (h : OkR k R) (cs : List Nat) : 0 ≤ rmMax R cs ∧ rmMax R cs ≤ (k : Int) * 2000000 := by
  have : ∀ (cs : List Nat) (b : Int), 0 ≤ b ∧ b ≤ (k : Int) * 2000000 → 0 ≤ cs.foldl (fun b c => max b (R.getD c 0)) b ∧ cs.foldl (fun b c => max b (R.getD c 0)) b ≤ (k : Int) * 2000000 := by
    intro cs
    induction cs with
    | nil => intro b hb; exact hb
    | cons c cs ih => intro b hb; exact ih (max b (R.getD c 0)) (by have := okR_get h c; omega)
  exact this cs 0 (by omega)
theorem okR_step {s : Scr} {S : List Int} {k f : Nat} {R : List Int} (h : OkR k R) (hn : fnN s f ≤ 16) (hS : 0 ≤ S.getD f 0 ∧ S.getD f 0 ≤ 1000000) : OkR (k + 1) (rmStep s S R f) := by
  intro z hz
  have hm := rmMax_in h (gF s f)
  rcases List.mem_or_eq_of_mem_set hz with hz | hz
  · have := h z hz
    rw [Int.natCast_add]
    omega
  · rw [Int.natCast_add]
    omega
theorem fn_le {s : Scr} (hr : s.right = true) (f : Nat) : fnN s f ≤ 16 := by
  unfold fnN
  split
  · rename_i g hg
    simp only [Scr.right, Bool.and_eq_true, decide_eq_true_eq, List.all_eq_true] at hr
    have h4 := hr.2 g (List.mem_of_getElem? hg)
    simp only [Fn.right, Fn.lists, Bool.and_eq_true, decide_eq_true_eq] at h4
    exact h4.1.1.1.2
  · omega
set_option maxRecDepth 100000 in
set_option maxHeartbeats 2000000 in
theorem rooms_any (s : Scr) (S : List Int) (o : List Nat) (n : Nat) (db : Nat) (fa sa oa ga : Option Addr) (fc sc oc gc : Nat) (W : World) (hn : s.funcs.length = n) (hr : s.right = true) (hsf : s.fits) (ho : o.length = n) (hT : Told n (gF s) o) (hSl : S.length = n) (hSb : ∀ z ∈ S, 0 ≤ z ∧ z ≤ 1000000)
    (d1 : W.cell? ⟨db, 1, none⟩ = some (.slice fa n fc)) (d3 : W.cell? ⟨db, 3, none⟩ = some (.slice sa n sc)) (d5 : W.cell? ⟨db, 5, none⟩ = some (.slice oa n oc)) (d7 : W.cell? ⟨db, 7, none⟩ = some (.slice ga n gc))
    (hF : FsAt W.cell? fa s.funcs) (hS : NsAt W.cell? sa S) (hO : NsAt W.cell? oa (rowI o)) (hG : RsAt W.cell? ga (rowsI (graphS s))) :
    Calls Tryz.prog 72 #[.pointer (some ⟨db, 0, none⟩)] W fun e W' => ∃ g, e = .returned (.slice (some ⟨g, 0, none⟩) n n) ∧ NsAt W'.cell? (some ⟨g, 0, none⟩) (roomsS s S o) ∧ W.heap.size ≤ g ∧ Below W.heap.size W W' := by
  obtain ⟨r1, r2, r3⟩ := right_calls hr
  rw [hn] at r1 r2
  have HMk : Hid (∀ W : World, ∃ W2, (Instr.makeSlice 28 (.int .i64 (n : Int)) (.int .i64 (n : Int))).run Tryz.prog W = .ok (.slice (some ⟨W.heap.size, 0, none⟩) n n) W2 ∧ Fill W2 W.heap.size 3 n (fun _ => .int .i64 0) ∧ Below W.heap.size W W2) := hid9 fun W => made8 W 28 3 (.int .i64 0) 8 n Tryz.underlying28 (by kernel_rfl) rfl (by omega) (by omega)
  have HI := hid9 (And.intro hF (And.intro hS (And.intro hO hG)))
  clear hF hS hO hG
  obtain ⟨w2, hm2, F2, b2⟩ := HMk.out W
  have hF2 := hid9 (And.intro F2 b2)
  have e5 : w2.cell? ⟨db, 5, none⟩ = some (.slice oa n oc) := below_keep b2 _ _ d5
  clear HMk F2 b2
  go_enter Tryz.func72, Tryz.ntmps72
  go_wp2_with fail
  clear hm2 e5
  have HB0 : Hid (FillB w2 W.heap.size (roomsS s S (o.take 0)) ∧ Below W.heap.size W w2 ∧ OkR 0 (roomsS s S (o.take 0))) := hid9 ⟨by
    have h := hF2.out.1
    rw [← hn] at h
    unfold FillB roomsS
    rw [List.take_zero, List.foldl_nil, List.length_replicate]
    exact h.congr fun j hj => by simp [List.getD, hj], hF2.out.2, fun z hz => by
      rw [List.take_zero, roomsS, List.foldl_nil] at hz
      rw [(List.mem_replicate.1 hz).2]
      omega⟩
  clear hF2
  have HT := hid9 hT
  have HR := hid9 hr
  have HN := hid9 hn
  have HSb := hid9 (And.intro hSl hSb)
  have HSf := hid9 hsf
  clear hT hr hn hSl hSb r3 hsf
  go_loopw [22] (fun iv wr => ∃ k : Nat, iv = .int .i64 k ∧ k ≤ n ∧ Hid (FillB wr W.heap.size (roomsS s S (o.take k)) ∧ Below W.heap.size W wr ∧ OkR k (roomsS s S (o.take k)))) (fun iv _ => n - (intOf iv).toNat)
  case atStart => exact ⟨0, rfl, Nat.zero_le _, HB0⟩
  case round =>
    obtain ⟨k, rfl, hk, HL⟩ := hrel
    clear HB0
    by_cases hlt : k < n
    · have hko : k < o.length := by omega
      obtain ⟨f, hfe⟩ : ∃ f, f = o[k] := ⟨_, rfl⟩
      have hf : f < n := by rw [hfe]; exact (HT.out k hko).1
      obtain ⟨I1, I2, I3, I4⟩ := HI.out
      have hkp := below_keep HL.out.2.1
      obtain ⟨ob, oo, eoa, q0⟩ : ∃ ob oo, oa = some ⟨ob, oo, none⟩ ∧ wr.cell? ⟨ob, oo + k, none⟩ = some (.int .i64 (f : Int)) := by
        rcases I3.keep hkp with h | ⟨b, oo, e, h⟩
        · have : (rowI o).length = 0 := by rw [h]; rfl
          simp [rowI] at this
          rw [this] at hko; cases hko
        · have := h k (by simp [rowI]; exact hko)
          refine ⟨b, oo, e, ?_⟩
          rw [this, hfe]
          simp [rowI]
      subst eoa
      obtain ⟨i1, i2, i3, i4⟩ := graph_inn s
      obtain ⟨gb, go, aj, cj, ega, q1, HQ⟩ : ∃ gb go aj cj, ga = some ⟨gb, go, none⟩ ∧ wr.cell? ⟨gb, go + f, none⟩ = some (.slice aj (gF s f).length cj) ∧ Hid (NsAt wr.cell? aj (rowI (gF s f))) := by
        rcases I4.keep hkp with h | ⟨b, off, e, h⟩
        · rw [rowsI, List.map_eq_nil_iff] at h
          have h5 := HN.out
          rw [← i4, h] at h5
          simp at h5
          omega
        · have hfl : f < (rowsI (graphS s)).length := by rw [rowsI, List.length_map, i4, HN.out]; exact hf
          obtain ⟨aj, cj, h1, h2⟩ := h f hfl
          have e2 : (rowsI (graphS s))[f] = rowI (gF s f) := by
            have : f < (graphS s).length := by rw [i4, HN.out]; exact hf
            simp [rowsI, gF, gOf, List.getD, this]
          rw [e2] at h1 h2
          exact ⟨b, off, aj, cj, e, by rw [h1]; simp [rowI], hid9 h2⟩
      subst ega
      obtain ⟨sb, so, esa, q2⟩ : ∃ sb so, sa = some ⟨sb, so, none⟩ ∧ W.cell? ⟨sb, so + f, none⟩ = some (.int .i64 (S.getD f 0)) := by
        rcases I2 with h | ⟨b, off, e, h⟩
        · have h1 := HSb.out.1; rw [h] at h1; simp at h1; omega
        · have hfl : f < S.length := by rw [HSb.out.1]; exact hf
          exact ⟨b, off, e, by rw [h f hfl]; simp [List.getD, hfl]⟩
      subst esa
      obtain ⟨fb, fo, v0, v1, v2, v3, efa, p0, p1, p2, p3, HFi⟩ : ∃ fb fo v0 v1 v2 v3, fa = some ⟨fb, fo, none⟩ ∧ W.cell? ⟨fb, fo + f * 4, none⟩ = some v0 ∧ W.cell? ⟨fb, fo + f * 4 + 1, none⟩ = some v1 ∧ W.cell? ⟨fb, fo + f * 4 + 2, none⟩ = some v2 ∧ W.cell? ⟨fb, fo + f * 4 + 3, none⟩ = some v3 ∧ Hid (∀ W0, Below W.heap.size W W0 → Calls Tryz.prog 82 #[.agg #[v0, v1, v2, v3]] W0 fun e W1 => ∃ a c, e = .returned (.slice a (fnN s f) c) ∧ Below W0.heap.size W0 W1) := by
        rcases I1 with h | ⟨b, off, e, h⟩
        · have h1 := HN.out; rw [h] at h1; simp at h1; omega
        · have hfl : f < s.funcs.length := by rw [HN.out]; exact hf
          obtain ⟨v0, v1, v2, v3, h0, h1, h2, h3, h4⟩ := h f hfl
          refine ⟨b, off, v0, v1, v2, v3, e, h0, h1, h2, h3, hid9 fun W0 hW0 => ?_⟩
          have hfit := HSf.out.2.2.1 _ (List.getElem_mem hfl)
          have efn : fnN s f = s.funcs[f].p.length + s.funcs[f].l.length := by unfold fnN; rw [List.getElem?_eq_getElem hfl]
          have hle : fnN s f ≤ 16 := fn_le HR.out f
          refine (slots_any s.funcs[f] v0 v1 v2 v3 W0 (h4.keep (below_keep hW0)) hfit (by omega)).mono fun e W1 h => ?_
          obtain ⟨⟨v, e1, hr⟩, hb⟩ := h
          obtain ⟨a, c, rfl, _⟩ := row_form hr
          exact ⟨a, c, by rw [e1, efn, List.length_append], hb⟩
      subst efa
      have HT1 : Hid (o.take (k + 1) = o.take k ++ [f]) := hid9 (by rw [List.take_succ_eq_append_getElem hko, hfe])
      obtain ⟨R, hRe⟩ : ∃ R, R = roomsS s S (o.take k) := ⟨_, rfl⟩
      have hRl : R.length = n := by rw [hRe, rooms_len, HN.out]
      have HFB : Hid (FillB wr W.heap.size R) := hid9 (by rw [hRe]; exact HL.out.1)
      have HOk : Hid (OkR k R) := hid9 (by rw [hRe]; exact HL.out.2.2)
      have HBw : Hid (Below W.heap.size W wr) := hid9 HL.out.2.1
      have HCs : Hid (∀ c ∈ gF s f, c < n) := hid9 fun c hc => by have := i1 f (by rw [HN.out]; exact hf) c hc; rw [HN.out] at this; exact this
      have hcl : (gF s f).length ≤ 16 := by
        have : (gF s f) ∈ graphS s := by
          have : f < (graphS s).length := by rw [i4, HN.out]; exact hf
          simp [gF, gOf, List.getD, this]
        have := i3 _ this
        rw [HN.out] at this
        omega
      have t1 : wr.cell? ⟨db, 1, none⟩ = some (.slice (some ⟨fb, fo, none⟩) n fc) := hkp _ _ d1
      have t3 : wr.cell? ⟨db, 3, none⟩ = some (.slice (some ⟨sb, so, none⟩) n sc) := hkp _ _ d3
      have t7 : wr.cell? ⟨db, 7, none⟩ = some (.slice (some ⟨gb, go, none⟩) n gc) := hkp _ _ d7
      obtain ⟨cs, hcs⟩ : ∃ cs, cs = gF s f := ⟨_, rfl⟩
      have HCe := hid9 hcs
      rw [← hcs] at q1 HQ HCs hcl
      obtain ⟨cn, hcn⟩ : ∃ cn, cn = cs.length := ⟨_, rfl⟩
      have HCn := hid9 hcn
      rw [← hcn] at q1 hcl
      clear I1 I2 I3 I4 i1 i2 i3 i4 hfe hcs hcn hkp
      go_wp2_with fail
      go_loopw [6, 34] (fun bv iv wq => ∃ i : Nat, iv = .int .i64 i ∧ i ≤ cn ∧ bv = .int .i64 (rmMax R (cs.take i)) ∧ wr = wq) (fun _ iv _ => cn - (intOf iv).toNat)
      case atStart => exact ⟨0, rfl, Nat.zero_le _, by simp [rmMax], rfl⟩
      case round =>
        obtain ⟨i, rfl, hi, rfl, rfl⟩ := hrel
        by_cases hic : i < cn
        · have hil : i < cs.length := by rw [← HCn.out]; exact hic
          obtain ⟨c, hce⟩ : ∃ c, c = cs[i] := ⟨_, rfl⟩
          have hcn2 : c < n := HCs.out c (by rw [hce]; exact List.getElem_mem hil)
          obtain ⟨ab, ao, eaj, q5⟩ : ∃ ab ao, aj = some ⟨ab, ao, none⟩ ∧ wr.cell? ⟨ab, ao + i, none⟩ = some (.int .i64 (c : Int)) := by
            rcases HQ.out with h | ⟨b, oo, e, h⟩
            · have : (rowI cs).length = 0 := by rw [h]; rfl
              simp [rowI] at this
              rw [this] at hil; cases hil
            · have := h i (by simp [rowI]; exact hil)
              refine ⟨b, oo, e, ?_⟩
              rw [this, hce]
              simp [rowI]
          subst eaj
          have q6 : wr.cell? ⟨W.heap.size, c, none⟩ = some (.int .i64 (R.getD c 0)) := Fill.cell HFB.out (by rw [hRl]; exact hcn2)
          have HM : Hid (rmMax R (cs.take (i + 1)) = max (rmMax R (cs.take i)) (R.getD c 0)) := hid9 (by rw [List.take_succ_eq_append_getElem hil, rmMax, List.foldl_append, hce]; rfl)
          generalize rmMax R (cs.take i) = m0 at *
          generalize R.getD c 0 = rv at *
          clear hce HQ HFB
          go_wp2_with fail
          exact ⟨⟨i + 1, by go_num, by omega, by rw [HM.out], by first | trivial | rfl⟩, by simp [intOf]; omega⟩
        · have e : i = cn := by omega
          subst e
          have hmx := rmMax_in HOk.out (cs.take i)
          have HMx : Hid (rmMax R (cs.take i) = rmMax R (gF s f)) := hid9 (by rw [HCn.out, List.take_length, HCe.out])
          generalize rmMax R (cs.take i) = mx at *
          have hsv : 0 ≤ S.getD f 0 ∧ S.getD f 0 ≤ 1000000 := by
            have hfl : f < S.length := by rw [HSb.out.1]; exact hf
            have := HSb.out.2 _ (List.getElem_mem hfl)
            simpa [List.getD, hfl] using this
          have hfn := fn_le HR.out f
          have HEnd : Hid (∀ W1, Below W.heap.size W W1 → FillB W1 W.heap.size R → FillB (W1.setCell ⟨W.heap.size, f, none⟩ (.int .i64 ((fnN s f : Int) + S.getD f 0 + mx))) W.heap.size (roomsS s S (o.take (k + 1))) ∧ Below W.heap.size W (W1.setCell ⟨W.heap.size, f, none⟩ (.int .i64 ((fnN s f : Int) + S.getD f 0 + mx))) ∧ OkR (k + 1) (roomsS s S (o.take (k + 1)))) := hid9 fun W1 hb hF => by
            rw [HT1.out, rooms_snoc, ← hRe]
            refine ⟨?_, hb.setCell (p := ⟨W.heap.size, f, none⟩) (Nat.le_refl _) _, okR_step HOk.out hfn hsv⟩
            have := hF.step f ((fnN s f : Int) + S.getD f 0 + mx) (by rw [hRl]; exact hf)
            rw [HMx.out] at this
            rw [HMx.out]
            exact this
          generalize S.getD f 0 = sv at *
          have HSS : Hid (∀ W1, Below W.heap.size W W1 → W1.cell? ⟨db, 1, none⟩ = some (.slice (some ⟨fb, fo, none⟩) n fc) ∧ W1.cell? ⟨db, 3, none⟩ = some (.slice (some ⟨sb, so, none⟩) n sc) ∧ (W1.cell? ⟨fb, fo + f * 4, none⟩ = some v0 ∧ W1.cell? ⟨fb, fo + f * 4 + 1, none⟩ = some v1 ∧ W1.cell? ⟨fb, fo + f * 4 + 2, none⟩ = some v2 ∧ W1.cell? ⟨fb, fo + f * 4 + 3, none⟩ = some v3) ∧ W1.cell? ⟨sb, so + f, none⟩ = some (.int .i64 sv)) := hid9 fun W1 hb => by
            have hq := below_keep hb
            exact ⟨hq _ _ d1, hq _ _ d3, ⟨hq _ _ p0, hq _ _ p1, hq _ _ p2, hq _ _ p3⟩, hq _ _ q2⟩
          have hS0 := HSS.out wr HBw.out
          have HSl : Hid (Calls Tryz.prog 82 #[.agg #[v0, v1, v2, v3]] wr.drew fun e W1 => ∃ a c, e = .returned (.slice a (fnN s f) c) ∧ (∃ u, W1.cell? ⟨W.heap.size, f, none⟩ = some u) ∧ W1.frozen? ⟨W.heap.size, f, none⟩ = false ∧ (W1.cell? ⟨db, 1, none⟩ = some (.slice (some ⟨fb, fo, none⟩) n fc) ∧ W1.cell? ⟨db, 3, none⟩ = some (.slice (some ⟨sb, so, none⟩) n sc) ∧ (W1.cell? ⟨fb, fo + f * 4, none⟩ = some v0 ∧ W1.cell? ⟨fb, fo + f * 4 + 1, none⟩ = some v1 ∧ W1.cell? ⟨fb, fo + f * 4 + 2, none⟩ = some v2 ∧ W1.cell? ⟨fb, fo + f * 4 + 3, none⟩ = some v3) ∧ W1.cell? ⟨sb, so + f, none⟩ = some (.int .i64 sv)) ∧ (∀ u, (W1.setCell ⟨W.heap.size, f, none⟩ u).cell? ⟨db, 1, none⟩ = some (.slice (some ⟨fb, fo, none⟩) n fc) ∧ (W1.setCell ⟨W.heap.size, f, none⟩ u).cell? ⟨db, 3, none⟩ = some (.slice (some ⟨sb, so, none⟩) n sc) ∧ ((W1.setCell ⟨W.heap.size, f, none⟩ u).cell? ⟨fb, fo + f * 4, none⟩ = some v0 ∧ (W1.setCell ⟨W.heap.size, f, none⟩ u).cell? ⟨fb, fo + f * 4 + 1, none⟩ = some v1 ∧ (W1.setCell ⟨W.heap.size, f, none⟩ u).cell? ⟨fb, fo + f * 4 + 2, none⟩ = some v2 ∧ (W1.setCell ⟨W.heap.size, f, none⟩ u).cell? ⟨fb, fo + f * 4 + 3, none⟩ = some v3) ∧ (W1.setCell ⟨W.heap.size, f, none⟩ u).cell? ⟨sb, so + f, none⟩ = some (.int .i64 sv)) ∧ Hid (Below W.heap.size W W1 ∧ FillB W1 W.heap.size R)) := hid9 ((HFi.out wr.drew HBw.out.drew).mono fun e W1 ⟨a, c, e1, h2⟩ => by
            have hb1 : Below wr.heap.size wr W1 := (Below.refl _ _).drew.trans h2
            have hb2 : Below W.heap.size W W1 := HBw.out.trans (hb1.mono HBw.out.size)
            have hF : FillB W1 W.heap.size R := Fill.keep HFB.out (hb1.block _ (Fill.lt HFB.out))
            exact ⟨a, c, e1, ⟨_, Fill.cell hF (by rw [hRl]; exact hf)⟩, Fill.frozen hF f, HSS.out W1 hb2, fun u => HSS.out _ (hb2.setCell (p := ⟨W.heap.size, f, none⟩) (Nat.le_refl _) u), hid9 ⟨hb2, hF⟩⟩)
          have hmb : mx ≤ 32000000 := by
            have : (k : Int) * 2000000 ≤ 16 * 2000000 := Int.mul_le_mul_of_nonneg_right (by omega) (by omega)
            omega
          have w1e : IntKind.i64.wrap ((fnN s f : Int) + sv) = (fnN s f : Int) + sv := by rw [IntKind.wrap_i64]; omega
          have w2e : IntKind.i64.wrap ((fnN s f : Int) + sv + mx) = (fnN s f : Int) + sv + mx := by rw [IntKind.wrap_i64]; omega
          generalize fnN s f = fn at *
          clear HFB HL HMx HOk HCs HQ HCe HCn HFi HI HT HSS
          go_wp2_with fail
          go_region_held3 (fun W => W.cell? ⟨db, 1, none⟩ = some (.slice (some ⟨fb, fo, none⟩) n fc) ∧ W.cell? ⟨db, 3, none⟩ = some (.slice (some ⟨sb, so, none⟩) n sc) ∧ (W.cell? ⟨fb, fo + f * 4, none⟩ = some v0 ∧ W.cell? ⟨fb, fo + f * 4 + 1, none⟩ = some v1 ∧ W.cell? ⟨fb, fo + f * 4 + 2, none⟩ = some v2 ∧ W.cell? ⟨fb, fo + f * 4 + 3, none⟩ = some v3) ∧ W.cell? ⟨sb, so + f, none⟩ = some (.int .i64 sv)) (first | exact hS0 | exact hS1 | exact hset _ | go_keep) (first
            | (go_at_call 82; refine HSl.out.mono ?_; clear HSl; rintro e W1 ⟨a, c, rfl, ⟨u, g1⟩, f1, hS1, hset, HW⟩))
          all_goals
            go_wp2_with fail
            exact ⟨⟨k + 1, by go_num, by omega, hid9 (HEnd.out _ HW.out.1 HW.out.2)⟩, by simp [intOf]; omega⟩
    · have e : k = n := by omega
      subst e
      have HE : Hid (NsAt wr.cell? (some ⟨W.heap.size, 0, none⟩) (roomsS s S o) ∧ Below W.heap.size W wr) := hid9 (by
        have h := HL.out.1
        rw [← ho, List.take_length] at h
        exact ⟨h.ns, HL.out.2.1⟩)
      clear HL
      go_wp2_with fail
      go_ret
      exact ⟨_, rfl, HE.out.1, Nat.le_refl _, HE.out.2⟩
end Go.Proofs.YtfnpngbcnmglfaaGreat
namespace Go.Proofs.YtfnpngbcnmglfaaGreat
open Go.RowKit
set_option maxRecDepth 100000 in
set_option maxHeartbeats 2000000 in
theorem step7_gen (P : Nat → World → Prop) (n : Nat) (V0 V1 : Value) (w : World) (db sb pb : Nat) (D : List Value) (W : World) (hS : St10 w db sb pb V0 V1 D W) (hD : D.length = 8)
    (hA : ∀ W0, Below W.heap.size W W0 → Calls Tryz.prog 72 #[.pointer (some ⟨db, 0, none⟩)] W0 fun e W1 => ∃ g, e = .returned (.slice (some ⟨g, 0, none⟩) n n) ∧ Below W0.heap.size W0 W1 ∧ P g W1) :
    Calls Tryz.prog 71 #[.pointer (some ⟨pb, 0, none⟩)] W fun e W' => ∃ (g : Nat) (W1 : World), e = .returned (.int .i64 0) ∧ Below W.heap.size W W1 ∧ W' = W1.setCell ⟨db, 6, none⟩ (.slice (some ⟨g, 0, none⟩) n n) ∧ St10 w db sb pb V0 V1 (D.set 6 (.slice (some ⟨g, 0, none⟩) n n)) W' ∧ P g W1 := by
  have x2 := hS.cells.2.2
  have HA : Hid (∀ W0, (W0 = W ∨ W0 = W.drew) → Calls Tryz.prog 72 #[.pointer (some ⟨db, 0, none⟩)] W0 fun e W1 => ∃ g, e = .returned (.slice (some ⟨g, 0, none⟩) n n) ∧ (∃ u, W1.cell? ⟨db, 6, none⟩ = some u) ∧ W1.frozen? ⟨db, 6, none⟩ = false ∧ W1.cell? ⟨pb, 0, none⟩ = some (.pointer (some ⟨db, 0, none⟩)) ∧ Hid (Below W.heap.size W W1 ∧ St10 w db sb pb V0 V1 D W1 ∧ P g W1)) := hid9 fun W0 hW0 => by
    have hb0 : Below W.heap.size W W0 := by
      rcases hW0 with e | e
      · rw [e]; exact Below.refl _ _
      · rw [e]; exact (Below.refl _ _).drew
    refine (hA _ hb0).mono fun e W1 ⟨g, e1, h2, h3⟩ => ?_
    have hb1 : Below W.heap.size W W1 := hb0.trans (h2.mono hb0.size)
    have hS1 := hS.off hb1
    exact ⟨g, e1, ⟨_, hS1.at (i := 6) (List.getElem?_eq_getElem (by omega))⟩, hS1.fz 6, hS1.cells.2.2, hid9 ⟨hb1, hS1, h3⟩⟩
  clear hA hS hD
  go_enter Tryz.func71, Tryz.ntmps71
  go_wp2_with (first
    | (go_at_call 72; refine (HA.out _ (.inl rfl)).mono ?_; clear HA; rintro e W1 ⟨g, rfl, ⟨u, g1⟩, f1, y2, HW⟩)
    | fail)
  first
    | (go_region_held3 (fun W => W.cell? ⟨pb, 0, none⟩ = some (.pointer (some ⟨db, 0, none⟩))) (first | exact x2 | exact y2 | exact hset _ | go_keep) (first
        | (go_at_call 72; refine (HA.out _ (.inr rfl)).mono ?_; clear HA; rintro e W1 ⟨g, rfl, ⟨u, g1⟩, f1, y2, HW⟩; have hset : ∀ u, (W1.setCell ⟨db, 6, none⟩ u).cell? ⟨pb, 0, none⟩ = some (.pointer (some ⟨db, 0, none⟩)) := fun u => (HW.out.2.1.set 6 u).cells.2.2)))
    | skip
  all_goals
    go_wp2_with fail
    go_ret
    exact ⟨g, W1, rfl, HW.out.1, rfl, HW.out.2.1.set 6 _, HW.out.2.2⟩
end Go.Proofs.YtfnpngbcnmglfaaGreat
