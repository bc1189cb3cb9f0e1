/-
  The walk of RowParts. (Printed by tools/genparts.py.)
-/
import Derived.Test.YtalkgfkekcocgaaRWOrd
import Derived.Test.YtalkgfkekcocgaaRApp2
namespace Go.Proofs.Ytalkgfkekcocgaa
open Go.RowKit Go.Shelf

theorem nulls_int (n : Int) (w : World) (h0 : 0 ≤ n) (h1 : n ≤ 32) :
    Calls Try.prog 25 #[.int .i64 n] w (RowEnd w (List.replicate n.toNat nullA) 0) := by
  obtain ⟨N, rfl⟩ := Int.eq_ofNat_of_zero_le h0
  exact nulls_ok N w (by omega)
theorem make_int (n : Int) (h0 : 0 ≤ n) (h1 : n ≤ 32) (w : World) : (Instr.makeSlice 22 (.int .i64 n) (.int .i64 n)).run Try.prog w =
    .ok (.slice (some ⟨w.heap.size, 0, none⟩) n.toNat n.toNat) (w.alloc (.cells (rowCells (List.replicate n.toNat nullA)) 56)) := by
  obtain ⟨N, rfl⟩ := Int.eq_ofNat_of_zero_le h0
  exact make_row N (by omega) w
theorem refSame_eq (A A' : Option Addr) (c c' L : Nat) (r : List Va) (w : World) (h : RowAt w A r) (h' : RowAt w A' r) (hL : r.length = L) (hl : L ≤ 65536) :
    Calls Try.prog 18 #[.slice A L c, .slice A' L c'] w fun e w' => e = .returned (.bool true) ∧ Below w.heap.size w w' := by
  subst hL
  have := refRowSame_any A A' c c' r r w h h' (by omega) (by omega)
  rw [cmpR_self] at this
  exact this

set_option maxRecDepth 100000 in
set_option maxHeartbeats 4000000 in
theorem parts_111 (A A' C : Option Addr) (c c' cc : Nat) (r r' : List Va) (cols : List Int) (n : Int) (w : World) (h : RowAt w A r) (h' : RowAt w A' r') (hC : IntsAt w C cols) (hf : Fine r) (hf' : Fine r') (_hA : A = none → c = 0) (_hA' : A' = none → c' = 0) (hla : largeV r = false) (hlb : largeV r' = false) (hcl : cols.length ≤ 100) (hP : cols.any (lackV r) = false) (hP2 : cols.length ≤ 32) (hJ : 32 < r.length + r'.length) (hN : n < 0) :
    Calls Try.prog 6 #[.slice A r.length c, .slice A' r'.length c', .slice C cols.length cc, .int .i64 n] w fun e w' => e = .returned (.bool true) ∧ Below w.heap.size w w' := by
  have hl := (large_len hla).1
  have hl' := (large_len hlb).1
  have hcl' : ¬ (100 : Int) < cols.length := by omega
  have HP := Lib.hid hP
  clear hP
  have hJi : (32 : Int) < (r.length : Int) + (r'.length : Int) := by omega
  have HR := Lib.hid h
  have HR' := Lib.hid h'
  have HC := Lib.hid hC
  clear h h' hC
  go_enter Try.func6, Try.ntmps6
  go_wp2_with fail
  refine (large_B A c r w HR.out hf (by omega)).mono ?_
  rintro e w1 ⟨rfl, hb1⟩
  have HB := Lib.hid hb1
  clear hb1
  rw [hla]
  go_wp2_with fail
  refine (large_B A' c' r' w1 (HR'.out.kept HB.out) hf' (by omega)).mono ?_
  rintro e w2 ⟨rfl, hb2⟩
  have HB := Lib.hid (bt HB.out hb2)
  clear hb2
  rw [hlb]
  go_wp2_with fail
  refine (pick_ok A C c cc r cols _ (HR.out.kept HB.out) (HC.out.kept HB.out) hP2 HP.out).mono ?_
  rintro e w3 ⟨Ap, cp, rfl, hp, hb3⟩
  have HPK := Lib.hid hp
  clear hp
  have HB := Lib.hid (bt HB.out hb3)
  clear hb3
  go_wp2_with fail
  refine (join_no A A' c c' r r' _ hJ (by omega) (by omega)).mono ?_
  rintro e w4 ⟨rfl, rfl⟩
  go_wp2_with fail
  refine (nulls_no n _ (by omega)).mono ?_
  rintro e w5 ⟨rfl, rfl⟩
  go_wp2_with fail
  refine (refPick_any A C c cc r cols _ (HR.out.kept HB.out) (HC.out.kept HB.out) (by omega)).mono ?_
  rw [HP.out]
  rintro e w6 ⟨Aq, cq, rfl, hq, hb6⟩
  have HQK := Lib.hid hq
  clear hq
  have hd32 : decide (cols.length ≤ 32) = true := by simp [hP2]
  rw [hd32]
  have HPK := Lib.hid (HPK.out.kept hb6)
  have HB := Lib.hid (bt HB.out hb6)
  clear hb6
  go_wp2_with fail
  refine (lives_yes _).mono ?_
  rintro e w7 ⟨rfl, hb7⟩
  have HPK := Lib.hid (HPK.out.kept hb7)
  have HQK := Lib.hid (HQK.out.kept hb7)
  have HB := Lib.hid (bt HB.out hb7)
  clear hb7
  go_wp2_with fail
  refine (refSame_eq _ _ _ _ cols.length (cols.map (atV r)) _ HPK.out HQK.out (by simp) (by omega)).mono ?_
  rintro e w8 ⟨rfl, hb8⟩
  have HB := Lib.hid (bt HB.out hb8)
  clear hb8
  go_wp2_with fail
  go_ret
  exact ⟨by simp, HB.out⟩

set_option maxRecDepth 100000 in
set_option maxHeartbeats 4000000 in
theorem parts_112 (A A' C : Option Addr) (c c' cc : Nat) (r r' : List Va) (cols : List Int) (n : Int) (w : World) (h : RowAt w A r) (h' : RowAt w A' r') (hC : IntsAt w C cols) (hf : Fine r) (hf' : Fine r') (_hA : A = none → c = 0) (_hA' : A' = none → c' = 0) (hla : largeV r = false) (hlb : largeV r' = false) (hcl : cols.length ≤ 100) (hP : cols.any (lackV r) = false) (hP2 : cols.length ≤ 32) (hJ : 32 < r.length + r'.length) (hN0 : 0 ≤ n) (hN1 : n ≤ 32) :
    Calls Try.prog 6 #[.slice A r.length c, .slice A' r'.length c', .slice C cols.length cc, .int .i64 n] w fun e w' => e = .returned (.bool true) ∧ Below w.heap.size w w' := by
  have hl := (large_len hla).1
  have hl' := (large_len hlb).1
  have hcl' : ¬ (100 : Int) < cols.length := by omega
  have HP := Lib.hid hP
  clear hP
  have hN2 : ¬ n < 0 := by omega
  have hN3 : ¬ 32 < n := by omega
  have hmk := make_int n hN0 hN1
  have hJi : (32 : Int) < (r.length : Int) + (r'.length : Int) := by omega
  have HR := Lib.hid h
  have HR' := Lib.hid h'
  have HC := Lib.hid hC
  clear h h' hC
  go_enter Try.func6, Try.ntmps6
  go_wp2_with fail
  refine (large_B A c r w HR.out hf (by omega)).mono ?_
  rintro e w1 ⟨rfl, hb1⟩
  have HB := Lib.hid hb1
  clear hb1
  rw [hla]
  go_wp2_with fail
  refine (large_B A' c' r' w1 (HR'.out.kept HB.out) hf' (by omega)).mono ?_
  rintro e w2 ⟨rfl, hb2⟩
  have HB := Lib.hid (bt HB.out hb2)
  clear hb2
  rw [hlb]
  go_wp2_with fail
  refine (pick_ok A C c cc r cols _ (HR.out.kept HB.out) (HC.out.kept HB.out) hP2 HP.out).mono ?_
  rintro e w3 ⟨Ap, cp, rfl, hp, hb3⟩
  have HPK := Lib.hid hp
  clear hp
  have HB := Lib.hid (bt HB.out hb3)
  clear hb3
  go_wp2_with fail
  refine (join_no A A' c c' r r' _ hJ (by omega) (by omega)).mono ?_
  rintro e w4 ⟨rfl, rfl⟩
  go_wp2_with fail
  refine (nulls_int n _ hN0 hN1).mono ?_
  rintro e w5 ⟨Az, cz, rfl, hz, hb5⟩
  have HNK := Lib.hid hz
  clear hz
  have HPK := Lib.hid (HPK.out.kept hb5)
  have HB := Lib.hid (bt HB.out hb5)
  clear hb5
  go_wp2_with fail
  refine (refPick_any A C c cc r cols _ (HR.out.kept HB.out) (HC.out.kept HB.out) (by omega)).mono ?_
  rw [HP.out]
  rintro e w6 ⟨Aq, cq, rfl, hq, hb6⟩
  have HQK := Lib.hid hq
  clear hq
  have hd32 : decide (cols.length ≤ 32) = true := by simp [hP2]
  rw [hd32]
  have HPK := Lib.hid (HPK.out.kept hb6)
  have HNK := Lib.hid (HNK.out.kept hb6)
  have HB := Lib.hid (bt HB.out hb6)
  clear hb6
  go_wp2_with fail
  refine (lives_yes _).mono ?_
  rintro e w7 ⟨rfl, hb7⟩
  have HPK := Lib.hid (HPK.out.kept hb7)
  have HNK := Lib.hid (HNK.out.kept hb7)
  have HQK := Lib.hid (HQK.out.kept hb7)
  have HB := Lib.hid (bt HB.out hb7)
  clear hb7
  go_wp2_with fail
  refine (refSame_eq _ _ _ _ cols.length (cols.map (atV r)) _ HPK.out HQK.out (by simp) (by omega)).mono ?_
  rintro e w8 ⟨rfl, hb8⟩
  have HNK := Lib.hid (HNK.out.kept hb8)
  have HB := Lib.hid (bt HB.out hb8)
  clear hb8
  go_wp2_with fail
  refine (refSame_eq _ _ _ _ n.toNat (List.replicate n.toNat nullA) _ (HNK.out.kept (ba _ _)) (row_new _ _ rfl _) (by simp) (by omega)).mono ?_
  rintro e w12 ⟨rfl, hb12⟩
  have HB := Lib.hid (bt (bt HB.out (ba _ _)) hb12)
  clear hb12
  go_wp2_with fail
  go_ret
  exact ⟨by simp, HB.out⟩

set_option maxRecDepth 100000 in
set_option maxHeartbeats 4000000 in
theorem parts_113 (A A' C : Option Addr) (c c' cc : Nat) (r r' : List Va) (cols : List Int) (n : Int) (w : World) (h : RowAt w A r) (h' : RowAt w A' r') (hC : IntsAt w C cols) (hf : Fine r) (hf' : Fine r') (_hA : A = none → c = 0) (_hA' : A' = none → c' = 0) (hla : largeV r = false) (hlb : largeV r' = false) (hcl : cols.length ≤ 100) (hP : cols.any (lackV r) = false) (hP2 : cols.length ≤ 32) (hJ : 32 < r.length + r'.length) (hN : 32 < n) :
    Calls Try.prog 6 #[.slice A r.length c, .slice A' r'.length c', .slice C cols.length cc, .int .i64 n] w fun e w' => e = .returned (.bool true) ∧ Below w.heap.size w w' := by
  have hl := (large_len hla).1
  have hl' := (large_len hlb).1
  have hcl' : ¬ (100 : Int) < cols.length := by omega
  have HP := Lib.hid hP
  clear hP
  have hN2 : ¬ n < 0 := by omega
  have hJi : (32 : Int) < (r.length : Int) + (r'.length : Int) := by omega
  have HR := Lib.hid h
  have HR' := Lib.hid h'
  have HC := Lib.hid hC
  clear h h' hC
  go_enter Try.func6, Try.ntmps6
  go_wp2_with fail
  refine (large_B A c r w HR.out hf (by omega)).mono ?_
  rintro e w1 ⟨rfl, hb1⟩
  have HB := Lib.hid hb1
  clear hb1
  rw [hla]
  go_wp2_with fail
  refine (large_B A' c' r' w1 (HR'.out.kept HB.out) hf' (by omega)).mono ?_
  rintro e w2 ⟨rfl, hb2⟩
  have HB := Lib.hid (bt HB.out hb2)
  clear hb2
  rw [hlb]
  go_wp2_with fail
  refine (pick_ok A C c cc r cols _ (HR.out.kept HB.out) (HC.out.kept HB.out) hP2 HP.out).mono ?_
  rintro e w3 ⟨Ap, cp, rfl, hp, hb3⟩
  have HPK := Lib.hid hp
  clear hp
  have HB := Lib.hid (bt HB.out hb3)
  clear hb3
  go_wp2_with fail
  refine (join_no A A' c c' r r' _ hJ (by omega) (by omega)).mono ?_
  rintro e w4 ⟨rfl, rfl⟩
  go_wp2_with fail
  refine (nulls_no n _ (by omega)).mono ?_
  rintro e w5 ⟨rfl, rfl⟩
  go_wp2_with fail
  refine (refPick_any A C c cc r cols _ (HR.out.kept HB.out) (HC.out.kept HB.out) (by omega)).mono ?_
  rw [HP.out]
  rintro e w6 ⟨Aq, cq, rfl, hq, hb6⟩
  have HQK := Lib.hid hq
  clear hq
  have hd32 : decide (cols.length ≤ 32) = true := by simp [hP2]
  rw [hd32]
  have HPK := Lib.hid (HPK.out.kept hb6)
  have HB := Lib.hid (bt HB.out hb6)
  clear hb6
  go_wp2_with fail
  refine (lives_yes _).mono ?_
  rintro e w7 ⟨rfl, hb7⟩
  have HPK := Lib.hid (HPK.out.kept hb7)
  have HQK := Lib.hid (HQK.out.kept hb7)
  have HB := Lib.hid (bt HB.out hb7)
  clear hb7
  go_wp2_with fail
  refine (refSame_eq _ _ _ _ cols.length (cols.map (atV r)) _ HPK.out HQK.out (by simp) (by omega)).mono ?_
  rintro e w8 ⟨rfl, hb8⟩
  have HB := Lib.hid (bt HB.out hb8)
  clear hb8
  go_wp2_with fail
  go_ret
  exact ⟨by simp, HB.out⟩

set_option maxRecDepth 100000 in
set_option maxHeartbeats 4000000 in
theorem parts_121 (A A' C : Option Addr) (c c' cc : Nat) (r r' : List Va) (cols : List Int) (n : Int) (w : World) (h : RowAt w A r) (h' : RowAt w A' r') (hC : IntsAt w C cols) (hf : Fine r) (hf' : Fine r') (hA : A = none → c = 0) (hA' : A' = none → c' = 0) (hla : largeV r = false) (hlb : largeV r' = false) (hcl : cols.length ≤ 100) (hP : cols.any (lackV r) = false) (hP2 : cols.length ≤ 32) (hJ : r.length + r'.length ≤ 32) (hN : n < 0) :
    Calls Try.prog 6 #[.slice A r.length c, .slice A' r'.length c', .slice C cols.length cc, .int .i64 n] w fun e w' => e = .returned (.bool true) ∧ Below w.heap.size w w' := by
  have hl := (large_len hla).1
  have hl' := (large_len hlb).1
  have hcl' : ¬ (100 : Int) < cols.length := by omega
  have HP := Lib.hid hP
  clear hP
  have hJi : ¬ (32 : Int) < (r.length : Int) + (r'.length : Int) := by omega
  have HR := Lib.hid h
  have HR' := Lib.hid h'
  have HC := Lib.hid hC
  clear h h' hC
  go_enter Try.func6, Try.ntmps6
  go_wp2_with fail
  refine (large_B A c r w HR.out hf (by omega)).mono ?_
  rintro e w1 ⟨rfl, hb1⟩
  have HB := Lib.hid hb1
  clear hb1
  rw [hla]
  go_wp2_with fail
  refine (large_B A' c' r' w1 (HR'.out.kept HB.out) hf' (by omega)).mono ?_
  rintro e w2 ⟨rfl, hb2⟩
  have HB := Lib.hid (bt HB.out hb2)
  clear hb2
  rw [hlb]
  go_wp2_with fail
  refine (pick_ok A C c cc r cols _ (HR.out.kept HB.out) (HC.out.kept HB.out) hP2 HP.out).mono ?_
  rintro e w3 ⟨Ap, cp, rfl, hp, hb3⟩
  have HPK := Lib.hid hp
  clear hp
  have HB := Lib.hid (bt HB.out hb3)
  clear hb3
  go_wp2_with fail
  refine (join_ok A A' c c' r r' _ (HR.out.kept HB.out) (HR'.out.kept HB.out) hA hA' hJ).mono ?_
  rintro e w4 ⟨Aj, cj, rfl, hj, hb4⟩
  have HJK := Lib.hid hj
  clear hj
  have HPK := Lib.hid (HPK.out.kept hb4)
  have HB := Lib.hid (bt HB.out hb4)
  clear hb4
  go_wp2_with fail
  refine (nulls_no n _ (by omega)).mono ?_
  rintro e w5 ⟨rfl, rfl⟩
  go_wp2_with fail
  refine (refPick_any A C c cc r cols _ (HR.out.kept HB.out) (HC.out.kept HB.out) (by omega)).mono ?_
  rw [HP.out]
  rintro e w6 ⟨Aq, cq, rfl, hq, hb6⟩
  have HQK := Lib.hid hq
  clear hq
  have hd32 : decide (cols.length ≤ 32) = true := by simp [hP2]
  rw [hd32]
  have HPK := Lib.hid (HPK.out.kept hb6)
  have HJK := Lib.hid (HJK.out.kept hb6)
  have HB := Lib.hid (bt HB.out hb6)
  clear hb6
  go_wp2_with fail
  refine (lives_yes _).mono ?_
  rintro e w7 ⟨rfl, hb7⟩
  have HPK := Lib.hid (HPK.out.kept hb7)
  have HJK := Lib.hid (HJK.out.kept hb7)
  have HQK := Lib.hid (HQK.out.kept hb7)
  have HB := Lib.hid (bt HB.out hb7)
  clear hb7
  go_wp2_with fail
  refine (refSame_eq _ _ _ _ cols.length (cols.map (atV r)) _ HPK.out HQK.out (by simp) (by omega)).mono ?_
  rintro e w8 ⟨rfl, hb8⟩
  have HJK := Lib.hid (HJK.out.kept hb8)
  have HB := Lib.hid (bt HB.out hb8)
  clear hb8
  go_wp2_with (at_builtin; refine wpList_unguard rfl (wpList_appRow rfl (.tmp 99) (.tmp 100) rfl w8.heap.size (.slice (some ⟨w8.heap.size, 0, none⟩) 0 0) [] A c r _ rfl (owns_empty _ _ _ rfl (Nat.le_refl _)) rfl ((HR.out.kept HB.out).kept (ba _ _)) hA ?a1 ?a2 ?_))
  case a1 => simp; omega
  case a2 => simp
  intro v1 w11 hown1 hB1
  have HO1 := Lib.hid hown1
  have HW1 := Lib.hid ((ba w8 _).trans hB1)
  have HR2 := Lib.hid ((HR'.out.kept HB.out).kept HW1.out)
  have hs11 := HW1.out.size
  clear hown1 hB1
  go_wp2_with (at_builtin; refine wpList_unguard rfl (wpList_appRow rfl (.tmp 101) (.tmp 102) rfl w8.heap.size v1 r A' c' r' _ rfl HO1.out rfl HR2.out hA' ?b1 ?b2 ?_))
  case b1 => omega
  case b2 => exact hs11
  intro v2 w13 hown2 hB2
  have hown3 : w13.ownsRow w8.heap.size 56 3 v2 (r ++ r').length (rowList (r ++ r')) := by simpa using hown2
  obtain ⟨A2, c2, rfl, hrow2⟩ := owns_form hown3
  have hall := HW1.out.trans hB2
  have HJK := Lib.hid (HJK.out.kept hall)
  have HROW := Lib.hid hrow2
  have HB := Lib.hid (bt HB.out hall)
  clear hown2 hown3 hB2 hrow2 hall
  go_wp2_with fail
  refine (refSame_eq _ _ _ _ (r.length + r'.length) (r ++ r') _ HJK.out HROW.out (by simp) (by omega)).mono ?_
  rintro e w14 ⟨rfl, hb14⟩
  have HB := Lib.hid (bt HB.out hb14)
  clear hb14
  go_wp2_with fail
  go_ret
  exact ⟨by simp, HB.out⟩

set_option maxRecDepth 100000 in
set_option maxHeartbeats 4000000 in
theorem parts_122 (A A' C : Option Addr) (c c' cc : Nat) (r r' : List Va) (cols : List Int) (n : Int) (w : World) (h : RowAt w A r) (h' : RowAt w A' r') (hC : IntsAt w C cols) (hf : Fine r) (hf' : Fine r') (hA : A = none → c = 0) (hA' : A' = none → c' = 0) (hla : largeV r = false) (hlb : largeV r' = false) (hcl : cols.length ≤ 100) (hP : cols.any (lackV r) = false) (hP2 : cols.length ≤ 32) (hJ : r.length + r'.length ≤ 32) (hN0 : 0 ≤ n) (hN1 : n ≤ 32) :
    Calls Try.prog 6 #[.slice A r.length c, .slice A' r'.length c', .slice C cols.length cc, .int .i64 n] w fun e w' => e = .returned (.bool true) ∧ Below w.heap.size w w' := by
  have hl := (large_len hla).1
  have hl' := (large_len hlb).1
  have hcl' : ¬ (100 : Int) < cols.length := by omega
  have HP := Lib.hid hP
  clear hP
  have hN2 : ¬ n < 0 := by omega
  have hN3 : ¬ 32 < n := by omega
  have hmk := make_int n hN0 hN1
  have hJi : ¬ (32 : Int) < (r.length : Int) + (r'.length : Int) := by omega
  have HR := Lib.hid h
  have HR' := Lib.hid h'
  have HC := Lib.hid hC
  clear h h' hC
  go_enter Try.func6, Try.ntmps6
  go_wp2_with fail
  refine (large_B A c r w HR.out hf (by omega)).mono ?_
  rintro e w1 ⟨rfl, hb1⟩
  have HB := Lib.hid hb1
  clear hb1
  rw [hla]
  go_wp2_with fail
  refine (large_B A' c' r' w1 (HR'.out.kept HB.out) hf' (by omega)).mono ?_
  rintro e w2 ⟨rfl, hb2⟩
  have HB := Lib.hid (bt HB.out hb2)
  clear hb2
  rw [hlb]
  go_wp2_with fail
  refine (pick_ok A C c cc r cols _ (HR.out.kept HB.out) (HC.out.kept HB.out) hP2 HP.out).mono ?_
  rintro e w3 ⟨Ap, cp, rfl, hp, hb3⟩
  have HPK := Lib.hid hp
  clear hp
  have HB := Lib.hid (bt HB.out hb3)
  clear hb3
  go_wp2_with fail
  refine (join_ok A A' c c' r r' _ (HR.out.kept HB.out) (HR'.out.kept HB.out) hA hA' hJ).mono ?_
  rintro e w4 ⟨Aj, cj, rfl, hj, hb4⟩
  have HJK := Lib.hid hj
  clear hj
  have HPK := Lib.hid (HPK.out.kept hb4)
  have HB := Lib.hid (bt HB.out hb4)
  clear hb4
  go_wp2_with fail
  refine (nulls_int n _ hN0 hN1).mono ?_
  rintro e w5 ⟨Az, cz, rfl, hz, hb5⟩
  have HNK := Lib.hid hz
  clear hz
  have HPK := Lib.hid (HPK.out.kept hb5)
  have HJK := Lib.hid (HJK.out.kept hb5)
  have HB := Lib.hid (bt HB.out hb5)
  clear hb5
  go_wp2_with fail
  refine (refPick_any A C c cc r cols _ (HR.out.kept HB.out) (HC.out.kept HB.out) (by omega)).mono ?_
  rw [HP.out]
  rintro e w6 ⟨Aq, cq, rfl, hq, hb6⟩
  have HQK := Lib.hid hq
  clear hq
  have hd32 : decide (cols.length ≤ 32) = true := by simp [hP2]
  rw [hd32]
  have HPK := Lib.hid (HPK.out.kept hb6)
  have HJK := Lib.hid (HJK.out.kept hb6)
  have HNK := Lib.hid (HNK.out.kept hb6)
  have HB := Lib.hid (bt HB.out hb6)
  clear hb6
  go_wp2_with fail
  refine (lives_yes _).mono ?_
  rintro e w7 ⟨rfl, hb7⟩
  have HPK := Lib.hid (HPK.out.kept hb7)
  have HJK := Lib.hid (HJK.out.kept hb7)
  have HNK := Lib.hid (HNK.out.kept hb7)
  have HQK := Lib.hid (HQK.out.kept hb7)
  have HB := Lib.hid (bt HB.out hb7)
  clear hb7
  go_wp2_with fail
  refine (refSame_eq _ _ _ _ cols.length (cols.map (atV r)) _ HPK.out HQK.out (by simp) (by omega)).mono ?_
  rintro e w8 ⟨rfl, hb8⟩
  have HJK := Lib.hid (HJK.out.kept hb8)
  have HNK := Lib.hid (HNK.out.kept hb8)
  have HB := Lib.hid (bt HB.out hb8)
  clear hb8
  go_wp2_with (at_builtin; refine wpList_unguard rfl (wpList_appRow rfl (.tmp 99) (.tmp 100) rfl w8.heap.size (.slice (some ⟨w8.heap.size, 0, none⟩) 0 0) [] A c r _ rfl (owns_empty _ _ _ rfl (Nat.le_refl _)) rfl ((HR.out.kept HB.out).kept (ba _ _)) hA ?a1 ?a2 ?_))
  case a1 => simp; omega
  case a2 => simp
  intro v1 w11 hown1 hB1
  have HO1 := Lib.hid hown1
  have HW1 := Lib.hid ((ba w8 _).trans hB1)
  have HR2 := Lib.hid ((HR'.out.kept HB.out).kept HW1.out)
  have hs11 := HW1.out.size
  clear hown1 hB1
  go_wp2_with (at_builtin; refine wpList_unguard rfl (wpList_appRow rfl (.tmp 101) (.tmp 102) rfl w8.heap.size v1 r A' c' r' _ rfl HO1.out rfl HR2.out hA' ?b1 ?b2 ?_))
  case b1 => omega
  case b2 => exact hs11
  intro v2 w13 hown2 hB2
  have hown3 : w13.ownsRow w8.heap.size 56 3 v2 (r ++ r').length (rowList (r ++ r')) := by simpa using hown2
  obtain ⟨A2, c2, rfl, hrow2⟩ := owns_form hown3
  have hall := HW1.out.trans hB2
  have HJK := Lib.hid (HJK.out.kept hall)
  have HNK := Lib.hid (HNK.out.kept hall)
  have HROW := Lib.hid hrow2
  have HB := Lib.hid (bt HB.out hall)
  clear hown2 hown3 hB2 hrow2 hall
  go_wp2_with fail
  refine (refSame_eq _ _ _ _ (r.length + r'.length) (r ++ r') _ HJK.out HROW.out (by simp) (by omega)).mono ?_
  rintro e w14 ⟨rfl, hb14⟩
  have HNK := Lib.hid (HNK.out.kept hb14)
  have HB := Lib.hid (bt HB.out hb14)
  clear hb14
  go_wp2_with fail
  refine (refSame_eq _ _ _ _ n.toNat (List.replicate n.toNat nullA) _ (HNK.out.kept (ba _ _)) (row_new _ _ rfl _) (by simp) (by omega)).mono ?_
  rintro e w12 ⟨rfl, hb12⟩
  have HB := Lib.hid (bt (bt HB.out (ba _ _)) hb12)
  clear hb12
  go_wp2_with fail
  go_ret
  exact ⟨by simp, HB.out⟩

set_option maxRecDepth 100000 in
set_option maxHeartbeats 4000000 in
theorem parts_123 (A A' C : Option Addr) (c c' cc : Nat) (r r' : List Va) (cols : List Int) (n : Int) (w : World) (h : RowAt w A r) (h' : RowAt w A' r') (hC : IntsAt w C cols) (hf : Fine r) (hf' : Fine r') (hA : A = none → c = 0) (hA' : A' = none → c' = 0) (hla : largeV r = false) (hlb : largeV r' = false) (hcl : cols.length ≤ 100) (hP : cols.any (lackV r) = false) (hP2 : cols.length ≤ 32) (hJ : r.length + r'.length ≤ 32) (hN : 32 < n) :
    Calls Try.prog 6 #[.slice A r.length c, .slice A' r'.length c', .slice C cols.length cc, .int .i64 n] w fun e w' => e = .returned (.bool true) ∧ Below w.heap.size w w' := by
  have hl := (large_len hla).1
  have hl' := (large_len hlb).1
  have hcl' : ¬ (100 : Int) < cols.length := by omega
  have HP := Lib.hid hP
  clear hP
  have hN2 : ¬ n < 0 := by omega
  have hJi : ¬ (32 : Int) < (r.length : Int) + (r'.length : Int) := by omega
  have HR := Lib.hid h
  have HR' := Lib.hid h'
  have HC := Lib.hid hC
  clear h h' hC
  go_enter Try.func6, Try.ntmps6
  go_wp2_with fail
  refine (large_B A c r w HR.out hf (by omega)).mono ?_
  rintro e w1 ⟨rfl, hb1⟩
  have HB := Lib.hid hb1
  clear hb1
  rw [hla]
  go_wp2_with fail
  refine (large_B A' c' r' w1 (HR'.out.kept HB.out) hf' (by omega)).mono ?_
  rintro e w2 ⟨rfl, hb2⟩
  have HB := Lib.hid (bt HB.out hb2)
  clear hb2
  rw [hlb]
  go_wp2_with fail
  refine (pick_ok A C c cc r cols _ (HR.out.kept HB.out) (HC.out.kept HB.out) hP2 HP.out).mono ?_
  rintro e w3 ⟨Ap, cp, rfl, hp, hb3⟩
  have HPK := Lib.hid hp
  clear hp
  have HB := Lib.hid (bt HB.out hb3)
  clear hb3
  go_wp2_with fail
  refine (join_ok A A' c c' r r' _ (HR.out.kept HB.out) (HR'.out.kept HB.out) hA hA' hJ).mono ?_
  rintro e w4 ⟨Aj, cj, rfl, hj, hb4⟩
  have HJK := Lib.hid hj
  clear hj
  have HPK := Lib.hid (HPK.out.kept hb4)
  have HB := Lib.hid (bt HB.out hb4)
  clear hb4
  go_wp2_with fail
  refine (nulls_no n _ (by omega)).mono ?_
  rintro e w5 ⟨rfl, rfl⟩
  go_wp2_with fail
  refine (refPick_any A C c cc r cols _ (HR.out.kept HB.out) (HC.out.kept HB.out) (by omega)).mono ?_
  rw [HP.out]
  rintro e w6 ⟨Aq, cq, rfl, hq, hb6⟩
  have HQK := Lib.hid hq
  clear hq
  have hd32 : decide (cols.length ≤ 32) = true := by simp [hP2]
  rw [hd32]
  have HPK := Lib.hid (HPK.out.kept hb6)
  have HJK := Lib.hid (HJK.out.kept hb6)
  have HB := Lib.hid (bt HB.out hb6)
  clear hb6
  go_wp2_with fail
  refine (lives_yes _).mono ?_
  rintro e w7 ⟨rfl, hb7⟩
  have HPK := Lib.hid (HPK.out.kept hb7)
  have HJK := Lib.hid (HJK.out.kept hb7)
  have HQK := Lib.hid (HQK.out.kept hb7)
  have HB := Lib.hid (bt HB.out hb7)
  clear hb7
  go_wp2_with fail
  refine (refSame_eq _ _ _ _ cols.length (cols.map (atV r)) _ HPK.out HQK.out (by simp) (by omega)).mono ?_
  rintro e w8 ⟨rfl, hb8⟩
  have HJK := Lib.hid (HJK.out.kept hb8)
  have HB := Lib.hid (bt HB.out hb8)
  clear hb8
  go_wp2_with (at_builtin; refine wpList_unguard rfl (wpList_appRow rfl (.tmp 99) (.tmp 100) rfl w8.heap.size (.slice (some ⟨w8.heap.size, 0, none⟩) 0 0) [] A c r _ rfl (owns_empty _ _ _ rfl (Nat.le_refl _)) rfl ((HR.out.kept HB.out).kept (ba _ _)) hA ?a1 ?a2 ?_))
  case a1 => simp; omega
  case a2 => simp
  intro v1 w11 hown1 hB1
  have HO1 := Lib.hid hown1
  have HW1 := Lib.hid ((ba w8 _).trans hB1)
  have HR2 := Lib.hid ((HR'.out.kept HB.out).kept HW1.out)
  have hs11 := HW1.out.size
  clear hown1 hB1
  go_wp2_with (at_builtin; refine wpList_unguard rfl (wpList_appRow rfl (.tmp 101) (.tmp 102) rfl w8.heap.size v1 r A' c' r' _ rfl HO1.out rfl HR2.out hA' ?b1 ?b2 ?_))
  case b1 => omega
  case b2 => exact hs11
  intro v2 w13 hown2 hB2
  have hown3 : w13.ownsRow w8.heap.size 56 3 v2 (r ++ r').length (rowList (r ++ r')) := by simpa using hown2
  obtain ⟨A2, c2, rfl, hrow2⟩ := owns_form hown3
  have hall := HW1.out.trans hB2
  have HJK := Lib.hid (HJK.out.kept hall)
  have HROW := Lib.hid hrow2
  have HB := Lib.hid (bt HB.out hall)
  clear hown2 hown3 hB2 hrow2 hall
  go_wp2_with fail
  refine (refSame_eq _ _ _ _ (r.length + r'.length) (r ++ r') _ HJK.out HROW.out (by simp) (by omega)).mono ?_
  rintro e w14 ⟨rfl, hb14⟩
  have HB := Lib.hid (bt HB.out hb14)
  clear hb14
  go_wp2_with fail
  go_ret
  exact ⟨by simp, HB.out⟩

set_option maxRecDepth 100000 in
set_option maxHeartbeats 4000000 in
theorem parts_211 (A A' C : Option Addr) (c c' cc : Nat) (r r' : List Va) (cols : List Int) (n : Int) (w : World) (h : RowAt w A r) (h' : RowAt w A' r') (hC : IntsAt w C cols) (hf : Fine r) (hf' : Fine r') (_hA : A = none → c = 0) (_hA' : A' = none → c' = 0) (hla : largeV r = false) (hlb : largeV r' = false) (hcl : cols.length ≤ 100) (hP : 32 < cols.length ∨ cols.any (lackV r) = true) (hJ : 32 < r.length + r'.length) (hN : n < 0) :
    Calls Try.prog 6 #[.slice A r.length c, .slice A' r'.length c', .slice C cols.length cc, .int .i64 n] w fun e w' => e = .returned (.bool true) ∧ Below w.heap.size w w' := by
  have hl := (large_len hla).1
  have hl' := (large_len hlb).1
  have hcl' : ¬ (100 : Int) < cols.length := by omega
  have HP := Lib.hid hP
  clear hP
  have hJi : (32 : Int) < (r.length : Int) + (r'.length : Int) := by omega
  have HR := Lib.hid h
  have HR' := Lib.hid h'
  have HC := Lib.hid hC
  clear h h' hC
  go_enter Try.func6, Try.ntmps6
  go_wp2_with fail
  refine (large_B A c r w HR.out hf (by omega)).mono ?_
  rintro e w1 ⟨rfl, hb1⟩
  have HB := Lib.hid hb1
  clear hb1
  rw [hla]
  go_wp2_with fail
  refine (large_B A' c' r' w1 (HR'.out.kept HB.out) hf' (by omega)).mono ?_
  rintro e w2 ⟨rfl, hb2⟩
  have HB := Lib.hid (bt HB.out hb2)
  clear hb2
  rw [hlb]
  go_wp2_with fail
  refine (pick_no A C c cc r cols _ (HC.out.kept HB.out) (by omega) HP.out).mono ?_
  rintro e w3 ⟨rfl, hb3⟩
  have HB := Lib.hid (bt HB.out hb3)
  clear hb3
  go_wp2_with fail
  refine (join_no A A' c c' r r' _ hJ (by omega) (by omega)).mono ?_
  rintro e w4 ⟨rfl, rfl⟩
  go_wp2_with fail
  refine (nulls_no n _ (by omega)).mono ?_
  rintro e w5 ⟨rfl, rfl⟩
  go_wp2_with fail
  refine (refPick_any A C c cc r cols _ (HR.out.kept HB.out) (HC.out.kept HB.out) (by omega)).mono ?_
  cases hany : cols.any (lackV r)
  · rintro e w6 ⟨Aq, cq, rfl, hq, hb6⟩
    clear hq
    have hd32 : decide (cols.length ≤ 32) = false := by
      rcases HP.out with hx | hx
      · simp; omega
      · rw [hany] at hx; cases hx
    rw [hd32]
    have HB := Lib.hid (bt HB.out hb6)
    clear hb6
    go_wp2_with fail
    refine (lives_yes _).mono ?_
    rintro e w7 ⟨rfl, hb7⟩
    have HB := Lib.hid (bt HB.out hb7)
    clear hb7
    go_wp2_with fail
    go_ret
    exact ⟨by simp, HB.out⟩
  · rintro e w6 ⟨rfl, hb6⟩
    have HB := Lib.hid (bt HB.out hb6)
    clear hb6
    go_wp2_with fail
    refine (lives_yes _).mono ?_
    rintro e w7 ⟨rfl, hb7⟩
    have HB := Lib.hid (bt HB.out hb7)
    clear hb7
    go_wp2_with fail
    go_ret
    exact ⟨by simp, HB.out⟩

set_option maxRecDepth 100000 in
set_option maxHeartbeats 4000000 in
theorem parts_212 (A A' C : Option Addr) (c c' cc : Nat) (r r' : List Va) (cols : List Int) (n : Int) (w : World) (h : RowAt w A r) (h' : RowAt w A' r') (hC : IntsAt w C cols) (hf : Fine r) (hf' : Fine r') (_hA : A = none → c = 0) (_hA' : A' = none → c' = 0) (hla : largeV r = false) (hlb : largeV r' = false) (hcl : cols.length ≤ 100) (hP : 32 < cols.length ∨ cols.any (lackV r) = true) (hJ : 32 < r.length + r'.length) (hN0 : 0 ≤ n) (hN1 : n ≤ 32) :
    Calls Try.prog 6 #[.slice A r.length c, .slice A' r'.length c', .slice C cols.length cc, .int .i64 n] w fun e w' => e = .returned (.bool true) ∧ Below w.heap.size w w' := by
  have hl := (large_len hla).1
  have hl' := (large_len hlb).1
  have hcl' : ¬ (100 : Int) < cols.length := by omega
  have HP := Lib.hid hP
  clear hP
  have hN2 : ¬ n < 0 := by omega
  have hN3 : ¬ 32 < n := by omega
  have hmk := make_int n hN0 hN1
  have hJi : (32 : Int) < (r.length : Int) + (r'.length : Int) := by omega
  have HR := Lib.hid h
  have HR' := Lib.hid h'
  have HC := Lib.hid hC
  clear h h' hC
  go_enter Try.func6, Try.ntmps6
  go_wp2_with fail
  refine (large_B A c r w HR.out hf (by omega)).mono ?_
  rintro e w1 ⟨rfl, hb1⟩
  have HB := Lib.hid hb1
  clear hb1
  rw [hla]
  go_wp2_with fail
  refine (large_B A' c' r' w1 (HR'.out.kept HB.out) hf' (by omega)).mono ?_
  rintro e w2 ⟨rfl, hb2⟩
  have HB := Lib.hid (bt HB.out hb2)
  clear hb2
  rw [hlb]
  go_wp2_with fail
  refine (pick_no A C c cc r cols _ (HC.out.kept HB.out) (by omega) HP.out).mono ?_
  rintro e w3 ⟨rfl, hb3⟩
  have HB := Lib.hid (bt HB.out hb3)
  clear hb3
  go_wp2_with fail
  refine (join_no A A' c c' r r' _ hJ (by omega) (by omega)).mono ?_
  rintro e w4 ⟨rfl, rfl⟩
  go_wp2_with fail
  refine (nulls_int n _ hN0 hN1).mono ?_
  rintro e w5 ⟨Az, cz, rfl, hz, hb5⟩
  have HNK := Lib.hid hz
  clear hz
  have HB := Lib.hid (bt HB.out hb5)
  clear hb5
  go_wp2_with fail
  refine (refPick_any A C c cc r cols _ (HR.out.kept HB.out) (HC.out.kept HB.out) (by omega)).mono ?_
  cases hany : cols.any (lackV r)
  · rintro e w6 ⟨Aq, cq, rfl, hq, hb6⟩
    clear hq
    have hd32 : decide (cols.length ≤ 32) = false := by
      rcases HP.out with hx | hx
      · simp; omega
      · rw [hany] at hx; cases hx
    rw [hd32]
    have HNK := Lib.hid (HNK.out.kept hb6)
    have HB := Lib.hid (bt HB.out hb6)
    clear hb6
    go_wp2_with fail
    refine (lives_yes _).mono ?_
    rintro e w7 ⟨rfl, hb7⟩
    have HNK := Lib.hid (HNK.out.kept hb7)
    have HB := Lib.hid (bt HB.out hb7)
    clear hb7
    go_wp2_with fail
    refine (refSame_eq _ _ _ _ n.toNat (List.replicate n.toNat nullA) _ (HNK.out.kept (ba _ _)) (row_new _ _ rfl _) (by simp) (by omega)).mono ?_
    rintro e w12 ⟨rfl, hb12⟩
    have HB := Lib.hid (bt (bt HB.out (ba _ _)) hb12)
    clear hb12
    go_wp2_with fail
    go_ret
    exact ⟨by simp, HB.out⟩
  · rintro e w6 ⟨rfl, hb6⟩
    have HNK := Lib.hid (HNK.out.kept hb6)
    have HB := Lib.hid (bt HB.out hb6)
    clear hb6
    go_wp2_with fail
    refine (lives_yes _).mono ?_
    rintro e w7 ⟨rfl, hb7⟩
    have HNK := Lib.hid (HNK.out.kept hb7)
    have HB := Lib.hid (bt HB.out hb7)
    clear hb7
    go_wp2_with fail
    refine (refSame_eq _ _ _ _ n.toNat (List.replicate n.toNat nullA) _ (HNK.out.kept (ba _ _)) (row_new _ _ rfl _) (by simp) (by omega)).mono ?_
    rintro e w12 ⟨rfl, hb12⟩
    have HB := Lib.hid (bt (bt HB.out (ba _ _)) hb12)
    clear hb12
    go_wp2_with fail
    go_ret
    exact ⟨by simp, HB.out⟩

set_option maxRecDepth 100000 in
set_option maxHeartbeats 4000000 in
theorem parts_213 (A A' C : Option Addr) (c c' cc : Nat) (r r' : List Va) (cols : List Int) (n : Int) (w : World) (h : RowAt w A r) (h' : RowAt w A' r') (hC : IntsAt w C cols) (hf : Fine r) (hf' : Fine r') (_hA : A = none → c = 0) (_hA' : A' = none → c' = 0) (hla : largeV r = false) (hlb : largeV r' = false) (hcl : cols.length ≤ 100) (hP : 32 < cols.length ∨ cols.any (lackV r) = true) (hJ : 32 < r.length + r'.length) (hN : 32 < n) :
    Calls Try.prog 6 #[.slice A r.length c, .slice A' r'.length c', .slice C cols.length cc, .int .i64 n] w fun e w' => e = .returned (.bool true) ∧ Below w.heap.size w w' := by
  have hl := (large_len hla).1
  have hl' := (large_len hlb).1
  have hcl' : ¬ (100 : Int) < cols.length := by omega
  have HP := Lib.hid hP
  clear hP
  have hN2 : ¬ n < 0 := by omega
  have hJi : (32 : Int) < (r.length : Int) + (r'.length : Int) := by omega
  have HR := Lib.hid h
  have HR' := Lib.hid h'
  have HC := Lib.hid hC
  clear h h' hC
  go_enter Try.func6, Try.ntmps6
  go_wp2_with fail
  refine (large_B A c r w HR.out hf (by omega)).mono ?_
  rintro e w1 ⟨rfl, hb1⟩
  have HB := Lib.hid hb1
  clear hb1
  rw [hla]
  go_wp2_with fail
  refine (large_B A' c' r' w1 (HR'.out.kept HB.out) hf' (by omega)).mono ?_
  rintro e w2 ⟨rfl, hb2⟩
  have HB := Lib.hid (bt HB.out hb2)
  clear hb2
  rw [hlb]
  go_wp2_with fail
  refine (pick_no A C c cc r cols _ (HC.out.kept HB.out) (by omega) HP.out).mono ?_
  rintro e w3 ⟨rfl, hb3⟩
  have HB := Lib.hid (bt HB.out hb3)
  clear hb3
  go_wp2_with fail
  refine (join_no A A' c c' r r' _ hJ (by omega) (by omega)).mono ?_
  rintro e w4 ⟨rfl, rfl⟩
  go_wp2_with fail
  refine (nulls_no n _ (by omega)).mono ?_
  rintro e w5 ⟨rfl, rfl⟩
  go_wp2_with fail
  refine (refPick_any A C c cc r cols _ (HR.out.kept HB.out) (HC.out.kept HB.out) (by omega)).mono ?_
  cases hany : cols.any (lackV r)
  · rintro e w6 ⟨Aq, cq, rfl, hq, hb6⟩
    clear hq
    have hd32 : decide (cols.length ≤ 32) = false := by
      rcases HP.out with hx | hx
      · simp; omega
      · rw [hany] at hx; cases hx
    rw [hd32]
    have HB := Lib.hid (bt HB.out hb6)
    clear hb6
    go_wp2_with fail
    refine (lives_yes _).mono ?_
    rintro e w7 ⟨rfl, hb7⟩
    have HB := Lib.hid (bt HB.out hb7)
    clear hb7
    go_wp2_with fail
    go_ret
    exact ⟨by simp, HB.out⟩
  · rintro e w6 ⟨rfl, hb6⟩
    have HB := Lib.hid (bt HB.out hb6)
    clear hb6
    go_wp2_with fail
    refine (lives_yes _).mono ?_
    rintro e w7 ⟨rfl, hb7⟩
    have HB := Lib.hid (bt HB.out hb7)
    clear hb7
    go_wp2_with fail
    go_ret
    exact ⟨by simp, HB.out⟩

set_option maxRecDepth 100000 in
set_option maxHeartbeats 4000000 in
theorem parts_221 (A A' C : Option Addr) (c c' cc : Nat) (r r' : List Va) (cols : List Int) (n : Int) (w : World) (h : RowAt w A r) (h' : RowAt w A' r') (hC : IntsAt w C cols) (hf : Fine r) (hf' : Fine r') (hA : A = none → c = 0) (hA' : A' = none → c' = 0) (hla : largeV r = false) (hlb : largeV r' = false) (hcl : cols.length ≤ 100) (hP : 32 < cols.length ∨ cols.any (lackV r) = true) (hJ : r.length + r'.length ≤ 32) (hN : n < 0) :
    Calls Try.prog 6 #[.slice A r.length c, .slice A' r'.length c', .slice C cols.length cc, .int .i64 n] w fun e w' => e = .returned (.bool true) ∧ Below w.heap.size w w' := by
  have hl := (large_len hla).1
  have hl' := (large_len hlb).1
  have hcl' : ¬ (100 : Int) < cols.length := by omega
  have HP := Lib.hid hP
  clear hP
  have hJi : ¬ (32 : Int) < (r.length : Int) + (r'.length : Int) := by omega
  have HR := Lib.hid h
  have HR' := Lib.hid h'
  have HC := Lib.hid hC
  clear h h' hC
  go_enter Try.func6, Try.ntmps6
  go_wp2_with fail
  refine (large_B A c r w HR.out hf (by omega)).mono ?_
  rintro e w1 ⟨rfl, hb1⟩
  have HB := Lib.hid hb1
  clear hb1
  rw [hla]
  go_wp2_with fail
  refine (large_B A' c' r' w1 (HR'.out.kept HB.out) hf' (by omega)).mono ?_
  rintro e w2 ⟨rfl, hb2⟩
  have HB := Lib.hid (bt HB.out hb2)
  clear hb2
  rw [hlb]
  go_wp2_with fail
  refine (pick_no A C c cc r cols _ (HC.out.kept HB.out) (by omega) HP.out).mono ?_
  rintro e w3 ⟨rfl, hb3⟩
  have HB := Lib.hid (bt HB.out hb3)
  clear hb3
  go_wp2_with fail
  refine (join_ok A A' c c' r r' _ (HR.out.kept HB.out) (HR'.out.kept HB.out) hA hA' hJ).mono ?_
  rintro e w4 ⟨Aj, cj, rfl, hj, hb4⟩
  have HJK := Lib.hid hj
  clear hj
  have HB := Lib.hid (bt HB.out hb4)
  clear hb4
  go_wp2_with fail
  refine (nulls_no n _ (by omega)).mono ?_
  rintro e w5 ⟨rfl, rfl⟩
  go_wp2_with fail
  refine (refPick_any A C c cc r cols _ (HR.out.kept HB.out) (HC.out.kept HB.out) (by omega)).mono ?_
  cases hany : cols.any (lackV r)
  · rintro e w6 ⟨Aq, cq, rfl, hq, hb6⟩
    clear hq
    have hd32 : decide (cols.length ≤ 32) = false := by
      rcases HP.out with hx | hx
      · simp; omega
      · rw [hany] at hx; cases hx
    rw [hd32]
    have HJK := Lib.hid (HJK.out.kept hb6)
    have HB := Lib.hid (bt HB.out hb6)
    clear hb6
    go_wp2_with fail
    refine (lives_yes _).mono ?_
    rintro e w7 ⟨rfl, hb7⟩
    have HJK := Lib.hid (HJK.out.kept hb7)
    have HB := Lib.hid (bt HB.out hb7)
    clear hb7
    go_wp2_with (at_builtin; refine wpList_unguard rfl (wpList_appRow rfl (.tmp 99) (.tmp 100) rfl w7.heap.size (.slice (some ⟨w7.heap.size, 0, none⟩) 0 0) [] A c r _ rfl (owns_empty _ _ _ rfl (Nat.le_refl _)) rfl ((HR.out.kept HB.out).kept (ba _ _)) hA ?a1 ?a2 ?_))
    case a1 => simp; omega
    case a2 => simp
    intro v1 w11 hown1 hB1
    have HO1 := Lib.hid hown1
    have HW1 := Lib.hid ((ba w7 _).trans hB1)
    have HR2 := Lib.hid ((HR'.out.kept HB.out).kept HW1.out)
    have hs11 := HW1.out.size
    clear hown1 hB1
    go_wp2_with (at_builtin; refine wpList_unguard rfl (wpList_appRow rfl (.tmp 101) (.tmp 102) rfl w7.heap.size v1 r A' c' r' _ rfl HO1.out rfl HR2.out hA' ?b1 ?b2 ?_))
    case b1 => omega
    case b2 => exact hs11
    intro v2 w13 hown2 hB2
    have hown3 : w13.ownsRow w7.heap.size 56 3 v2 (r ++ r').length (rowList (r ++ r')) := by simpa using hown2
    obtain ⟨A2, c2, rfl, hrow2⟩ := owns_form hown3
    have hall := HW1.out.trans hB2
    have HJK := Lib.hid (HJK.out.kept hall)
    have HROW := Lib.hid hrow2
    have HB := Lib.hid (bt HB.out hall)
    clear hown2 hown3 hB2 hrow2 hall
    go_wp2_with fail
    refine (refSame_eq _ _ _ _ (r.length + r'.length) (r ++ r') _ HJK.out HROW.out (by simp) (by omega)).mono ?_
    rintro e w14 ⟨rfl, hb14⟩
    have HB := Lib.hid (bt HB.out hb14)
    clear hb14
    go_wp2_with fail
    go_ret
    exact ⟨by simp, HB.out⟩
  · rintro e w6 ⟨rfl, hb6⟩
    have HJK := Lib.hid (HJK.out.kept hb6)
    have HB := Lib.hid (bt HB.out hb6)
    clear hb6
    go_wp2_with fail
    refine (lives_yes _).mono ?_
    rintro e w7 ⟨rfl, hb7⟩
    have HJK := Lib.hid (HJK.out.kept hb7)
    have HB := Lib.hid (bt HB.out hb7)
    clear hb7
    go_wp2_with (at_builtin; refine wpList_unguard rfl (wpList_appRow rfl (.tmp 99) (.tmp 100) rfl w7.heap.size (.slice (some ⟨w7.heap.size, 0, none⟩) 0 0) [] A c r _ rfl (owns_empty _ _ _ rfl (Nat.le_refl _)) rfl ((HR.out.kept HB.out).kept (ba _ _)) hA ?a1 ?a2 ?_))
    case a1 => simp; omega
    case a2 => simp
    intro v1 w11 hown1 hB1
    have HO1 := Lib.hid hown1
    have HW1 := Lib.hid ((ba w7 _).trans hB1)
    have HR2 := Lib.hid ((HR'.out.kept HB.out).kept HW1.out)
    have hs11 := HW1.out.size
    clear hown1 hB1
    go_wp2_with (at_builtin; refine wpList_unguard rfl (wpList_appRow rfl (.tmp 101) (.tmp 102) rfl w7.heap.size v1 r A' c' r' _ rfl HO1.out rfl HR2.out hA' ?b1 ?b2 ?_))
    case b1 => omega
    case b2 => exact hs11
    intro v2 w13 hown2 hB2
    have hown3 : w13.ownsRow w7.heap.size 56 3 v2 (r ++ r').length (rowList (r ++ r')) := by simpa using hown2
    obtain ⟨A2, c2, rfl, hrow2⟩ := owns_form hown3
    have hall := HW1.out.trans hB2
    have HJK := Lib.hid (HJK.out.kept hall)
    have HROW := Lib.hid hrow2
    have HB := Lib.hid (bt HB.out hall)
    clear hown2 hown3 hB2 hrow2 hall
    go_wp2_with fail
    refine (refSame_eq _ _ _ _ (r.length + r'.length) (r ++ r') _ HJK.out HROW.out (by simp) (by omega)).mono ?_
    rintro e w14 ⟨rfl, hb14⟩
    have HB := Lib.hid (bt HB.out hb14)
    clear hb14
    go_wp2_with fail
    go_ret
    exact ⟨by simp, HB.out⟩

set_option maxRecDepth 100000 in
set_option maxHeartbeats 4000000 in
theorem parts_222 (A A' C : Option Addr) (c c' cc : Nat) (r r' : List Va) (cols : List Int) (n : Int) (w : World) (h : RowAt w A r) (h' : RowAt w A' r') (hC : IntsAt w C cols) (hf : Fine r) (hf' : Fine r') (hA : A = none → c = 0) (hA' : A' = none → c' = 0) (hla : largeV r = false) (hlb : largeV r' = false) (hcl : cols.length ≤ 100) (hP : 32 < cols.length ∨ cols.any (lackV r) = true) (hJ : r.length + r'.length ≤ 32) (hN0 : 0 ≤ n) (hN1 : n ≤ 32) :
    Calls Try.prog 6 #[.slice A r.length c, .slice A' r'.length c', .slice C cols.length cc, .int .i64 n] w fun e w' => e = .returned (.bool true) ∧ Below w.heap.size w w' := by
  have hl := (large_len hla).1
  have hl' := (large_len hlb).1
  have hcl' : ¬ (100 : Int) < cols.length := by omega
  have HP := Lib.hid hP
  clear hP
  have hN2 : ¬ n < 0 := by omega
  have hN3 : ¬ 32 < n := by omega
  have hmk := make_int n hN0 hN1
  have hJi : ¬ (32 : Int) < (r.length : Int) + (r'.length : Int) := by omega
  have HR := Lib.hid h
  have HR' := Lib.hid h'
  have HC := Lib.hid hC
  clear h h' hC
  go_enter Try.func6, Try.ntmps6
  go_wp2_with fail
  refine (large_B A c r w HR.out hf (by omega)).mono ?_
  rintro e w1 ⟨rfl, hb1⟩
  have HB := Lib.hid hb1
  clear hb1
  rw [hla]
  go_wp2_with fail
  refine (large_B A' c' r' w1 (HR'.out.kept HB.out) hf' (by omega)).mono ?_
  rintro e w2 ⟨rfl, hb2⟩
  have HB := Lib.hid (bt HB.out hb2)
  clear hb2
  rw [hlb]
  go_wp2_with fail
  refine (pick_no A C c cc r cols _ (HC.out.kept HB.out) (by omega) HP.out).mono ?_
  rintro e w3 ⟨rfl, hb3⟩
  have HB := Lib.hid (bt HB.out hb3)
  clear hb3
  go_wp2_with fail
  refine (join_ok A A' c c' r r' _ (HR.out.kept HB.out) (HR'.out.kept HB.out) hA hA' hJ).mono ?_
  rintro e w4 ⟨Aj, cj, rfl, hj, hb4⟩
  have HJK := Lib.hid hj
  clear hj
  have HB := Lib.hid (bt HB.out hb4)
  clear hb4
  go_wp2_with fail
  refine (nulls_int n _ hN0 hN1).mono ?_
  rintro e w5 ⟨Az, cz, rfl, hz, hb5⟩
  have HNK := Lib.hid hz
  clear hz
  have HJK := Lib.hid (HJK.out.kept hb5)
  have HB := Lib.hid (bt HB.out hb5)
  clear hb5
  go_wp2_with fail
  refine (refPick_any A C c cc r cols _ (HR.out.kept HB.out) (HC.out.kept HB.out) (by omega)).mono ?_
  cases hany : cols.any (lackV r)
  · rintro e w6 ⟨Aq, cq, rfl, hq, hb6⟩
    clear hq
    have hd32 : decide (cols.length ≤ 32) = false := by
      rcases HP.out with hx | hx
      · simp; omega
      · rw [hany] at hx; cases hx
    rw [hd32]
    have HJK := Lib.hid (HJK.out.kept hb6)
    have HNK := Lib.hid (HNK.out.kept hb6)
    have HB := Lib.hid (bt HB.out hb6)
    clear hb6
    go_wp2_with fail
    refine (lives_yes _).mono ?_
    rintro e w7 ⟨rfl, hb7⟩
    have HJK := Lib.hid (HJK.out.kept hb7)
    have HNK := Lib.hid (HNK.out.kept hb7)
    have HB := Lib.hid (bt HB.out hb7)
    clear hb7
    go_wp2_with (at_builtin; refine wpList_unguard rfl (wpList_appRow rfl (.tmp 99) (.tmp 100) rfl w7.heap.size (.slice (some ⟨w7.heap.size, 0, none⟩) 0 0) [] A c r _ rfl (owns_empty _ _ _ rfl (Nat.le_refl _)) rfl ((HR.out.kept HB.out).kept (ba _ _)) hA ?a1 ?a2 ?_))
    case a1 => simp; omega
    case a2 => simp
    intro v1 w11 hown1 hB1
    have HO1 := Lib.hid hown1
    have HW1 := Lib.hid ((ba w7 _).trans hB1)
    have HR2 := Lib.hid ((HR'.out.kept HB.out).kept HW1.out)
    have hs11 := HW1.out.size
    clear hown1 hB1
    go_wp2_with (at_builtin; refine wpList_unguard rfl (wpList_appRow rfl (.tmp 101) (.tmp 102) rfl w7.heap.size v1 r A' c' r' _ rfl HO1.out rfl HR2.out hA' ?b1 ?b2 ?_))
    case b1 => omega
    case b2 => exact hs11
    intro v2 w13 hown2 hB2
    have hown3 : w13.ownsRow w7.heap.size 56 3 v2 (r ++ r').length (rowList (r ++ r')) := by simpa using hown2
    obtain ⟨A2, c2, rfl, hrow2⟩ := owns_form hown3
    have hall := HW1.out.trans hB2
    have HJK := Lib.hid (HJK.out.kept hall)
    have HNK := Lib.hid (HNK.out.kept hall)
    have HROW := Lib.hid hrow2
    have HB := Lib.hid (bt HB.out hall)
    clear hown2 hown3 hB2 hrow2 hall
    go_wp2_with fail
    refine (refSame_eq _ _ _ _ (r.length + r'.length) (r ++ r') _ HJK.out HROW.out (by simp) (by omega)).mono ?_
    rintro e w14 ⟨rfl, hb14⟩
    have HNK := Lib.hid (HNK.out.kept hb14)
    have HB := Lib.hid (bt HB.out hb14)
    clear hb14
    go_wp2_with fail
    refine (refSame_eq _ _ _ _ n.toNat (List.replicate n.toNat nullA) _ (HNK.out.kept (ba _ _)) (row_new _ _ rfl _) (by simp) (by omega)).mono ?_
    rintro e w12 ⟨rfl, hb12⟩
    have HB := Lib.hid (bt (bt HB.out (ba _ _)) hb12)
    clear hb12
    go_wp2_with fail
    go_ret
    exact ⟨by simp, HB.out⟩
  · rintro e w6 ⟨rfl, hb6⟩
    have HJK := Lib.hid (HJK.out.kept hb6)
    have HNK := Lib.hid (HNK.out.kept hb6)
    have HB := Lib.hid (bt HB.out hb6)
    clear hb6
    go_wp2_with fail
    refine (lives_yes _).mono ?_
    rintro e w7 ⟨rfl, hb7⟩
    have HJK := Lib.hid (HJK.out.kept hb7)
    have HNK := Lib.hid (HNK.out.kept hb7)
    have HB := Lib.hid (bt HB.out hb7)
    clear hb7
    go_wp2_with (at_builtin; refine wpList_unguard rfl (wpList_appRow rfl (.tmp 99) (.tmp 100) rfl w7.heap.size (.slice (some ⟨w7.heap.size, 0, none⟩) 0 0) [] A c r _ rfl (owns_empty _ _ _ rfl (Nat.le_refl _)) rfl ((HR.out.kept HB.out).kept (ba _ _)) hA ?a1 ?a2 ?_))
    case a1 => simp; omega
    case a2 => simp
    intro v1 w11 hown1 hB1
    have HO1 := Lib.hid hown1
    have HW1 := Lib.hid ((ba w7 _).trans hB1)
    have HR2 := Lib.hid ((HR'.out.kept HB.out).kept HW1.out)
    have hs11 := HW1.out.size
    clear hown1 hB1
    go_wp2_with (at_builtin; refine wpList_unguard rfl (wpList_appRow rfl (.tmp 101) (.tmp 102) rfl w7.heap.size v1 r A' c' r' _ rfl HO1.out rfl HR2.out hA' ?b1 ?b2 ?_))
    case b1 => omega
    case b2 => exact hs11
    intro v2 w13 hown2 hB2
    have hown3 : w13.ownsRow w7.heap.size 56 3 v2 (r ++ r').length (rowList (r ++ r')) := by simpa using hown2
    obtain ⟨A2, c2, rfl, hrow2⟩ := owns_form hown3
    have hall := HW1.out.trans hB2
    have HJK := Lib.hid (HJK.out.kept hall)
    have HNK := Lib.hid (HNK.out.kept hall)
    have HROW := Lib.hid hrow2
    have HB := Lib.hid (bt HB.out hall)
    clear hown2 hown3 hB2 hrow2 hall
    go_wp2_with fail
    refine (refSame_eq _ _ _ _ (r.length + r'.length) (r ++ r') _ HJK.out HROW.out (by simp) (by omega)).mono ?_
    rintro e w14 ⟨rfl, hb14⟩
    have HNK := Lib.hid (HNK.out.kept hb14)
    have HB := Lib.hid (bt HB.out hb14)
    clear hb14
    go_wp2_with fail
    refine (refSame_eq _ _ _ _ n.toNat (List.replicate n.toNat nullA) _ (HNK.out.kept (ba _ _)) (row_new _ _ rfl _) (by simp) (by omega)).mono ?_
    rintro e w12 ⟨rfl, hb12⟩
    have HB := Lib.hid (bt (bt HB.out (ba _ _)) hb12)
    clear hb12
    go_wp2_with fail
    go_ret
    exact ⟨by simp, HB.out⟩

set_option maxRecDepth 100000 in
set_option maxHeartbeats 4000000 in
theorem parts_223 (A A' C : Option Addr) (c c' cc : Nat) (r r' : List Va) (cols : List Int) (n : Int) (w : World) (h : RowAt w A r) (h' : RowAt w A' r') (hC : IntsAt w C cols) (hf : Fine r) (hf' : Fine r') (hA : A = none → c = 0) (hA' : A' = none → c' = 0) (hla : largeV r = false) (hlb : largeV r' = false) (hcl : cols.length ≤ 100) (hP : 32 < cols.length ∨ cols.any (lackV r) = true) (hJ : r.length + r'.length ≤ 32) (hN : 32 < n) :
    Calls Try.prog 6 #[.slice A r.length c, .slice A' r'.length c', .slice C cols.length cc, .int .i64 n] w fun e w' => e = .returned (.bool true) ∧ Below w.heap.size w w' := by
  have hl := (large_len hla).1
  have hl' := (large_len hlb).1
  have hcl' : ¬ (100 : Int) < cols.length := by omega
  have HP := Lib.hid hP
  clear hP
  have hN2 : ¬ n < 0 := by omega
  have hJi : ¬ (32 : Int) < (r.length : Int) + (r'.length : Int) := by omega
  have HR := Lib.hid h
  have HR' := Lib.hid h'
  have HC := Lib.hid hC
  clear h h' hC
  go_enter Try.func6, Try.ntmps6
  go_wp2_with fail
  refine (large_B A c r w HR.out hf (by omega)).mono ?_
  rintro e w1 ⟨rfl, hb1⟩
  have HB := Lib.hid hb1
  clear hb1
  rw [hla]
  go_wp2_with fail
  refine (large_B A' c' r' w1 (HR'.out.kept HB.out) hf' (by omega)).mono ?_
  rintro e w2 ⟨rfl, hb2⟩
  have HB := Lib.hid (bt HB.out hb2)
  clear hb2
  rw [hlb]
  go_wp2_with fail
  refine (pick_no A C c cc r cols _ (HC.out.kept HB.out) (by omega) HP.out).mono ?_
  rintro e w3 ⟨rfl, hb3⟩
  have HB := Lib.hid (bt HB.out hb3)
  clear hb3
  go_wp2_with fail
  refine (join_ok A A' c c' r r' _ (HR.out.kept HB.out) (HR'.out.kept HB.out) hA hA' hJ).mono ?_
  rintro e w4 ⟨Aj, cj, rfl, hj, hb4⟩
  have HJK := Lib.hid hj
  clear hj
  have HB := Lib.hid (bt HB.out hb4)
  clear hb4
  go_wp2_with fail
  refine (nulls_no n _ (by omega)).mono ?_
  rintro e w5 ⟨rfl, rfl⟩
  go_wp2_with fail
  refine (refPick_any A C c cc r cols _ (HR.out.kept HB.out) (HC.out.kept HB.out) (by omega)).mono ?_
  cases hany : cols.any (lackV r)
  · rintro e w6 ⟨Aq, cq, rfl, hq, hb6⟩
    clear hq
    have hd32 : decide (cols.length ≤ 32) = false := by
      rcases HP.out with hx | hx
      · simp; omega
      · rw [hany] at hx; cases hx
    rw [hd32]
    have HJK := Lib.hid (HJK.out.kept hb6)
    have HB := Lib.hid (bt HB.out hb6)
    clear hb6
    go_wp2_with fail
    refine (lives_yes _).mono ?_
    rintro e w7 ⟨rfl, hb7⟩
    have HJK := Lib.hid (HJK.out.kept hb7)
    have HB := Lib.hid (bt HB.out hb7)
    clear hb7
    go_wp2_with (at_builtin; refine wpList_unguard rfl (wpList_appRow rfl (.tmp 99) (.tmp 100) rfl w7.heap.size (.slice (some ⟨w7.heap.size, 0, none⟩) 0 0) [] A c r _ rfl (owns_empty _ _ _ rfl (Nat.le_refl _)) rfl ((HR.out.kept HB.out).kept (ba _ _)) hA ?a1 ?a2 ?_))
    case a1 => simp; omega
    case a2 => simp
    intro v1 w11 hown1 hB1
    have HO1 := Lib.hid hown1
    have HW1 := Lib.hid ((ba w7 _).trans hB1)
    have HR2 := Lib.hid ((HR'.out.kept HB.out).kept HW1.out)
    have hs11 := HW1.out.size
    clear hown1 hB1
    go_wp2_with (at_builtin; refine wpList_unguard rfl (wpList_appRow rfl (.tmp 101) (.tmp 102) rfl w7.heap.size v1 r A' c' r' _ rfl HO1.out rfl HR2.out hA' ?b1 ?b2 ?_))
    case b1 => omega
    case b2 => exact hs11
    intro v2 w13 hown2 hB2
    have hown3 : w13.ownsRow w7.heap.size 56 3 v2 (r ++ r').length (rowList (r ++ r')) := by simpa using hown2
    obtain ⟨A2, c2, rfl, hrow2⟩ := owns_form hown3
    have hall := HW1.out.trans hB2
    have HJK := Lib.hid (HJK.out.kept hall)
    have HROW := Lib.hid hrow2
    have HB := Lib.hid (bt HB.out hall)
    clear hown2 hown3 hB2 hrow2 hall
    go_wp2_with fail
    refine (refSame_eq _ _ _ _ (r.length + r'.length) (r ++ r') _ HJK.out HROW.out (by simp) (by omega)).mono ?_
    rintro e w14 ⟨rfl, hb14⟩
    have HB := Lib.hid (bt HB.out hb14)
    clear hb14
    go_wp2_with fail
    go_ret
    exact ⟨by simp, HB.out⟩
  · rintro e w6 ⟨rfl, hb6⟩
    have HJK := Lib.hid (HJK.out.kept hb6)
    have HB := Lib.hid (bt HB.out hb6)
    clear hb6
    go_wp2_with fail
    refine (lives_yes _).mono ?_
    rintro e w7 ⟨rfl, hb7⟩
    have HJK := Lib.hid (HJK.out.kept hb7)
    have HB := Lib.hid (bt HB.out hb7)
    clear hb7
    go_wp2_with (at_builtin; refine wpList_unguard rfl (wpList_appRow rfl (.tmp 99) (.tmp 100) rfl w7.heap.size (.slice (some ⟨w7.heap.size, 0, none⟩) 0 0) [] A c r _ rfl (owns_empty _ _ _ rfl (Nat.le_refl _)) rfl ((HR.out.kept HB.out).kept (ba _ _)) hA ?a1 ?a2 ?_))
    case a1 => simp; omega
    case a2 => simp
    intro v1 w11 hown1 hB1
    have HO1 := Lib.hid hown1
    have HW1 := Lib.hid ((ba w7 _).trans hB1)
    have HR2 := Lib.hid ((HR'.out.kept HB.out).kept HW1.out)
    have hs11 := HW1.out.size
    clear hown1 hB1
    go_wp2_with (at_builtin; refine wpList_unguard rfl (wpList_appRow rfl (.tmp 101) (.tmp 102) rfl w7.heap.size v1 r A' c' r' _ rfl HO1.out rfl HR2.out hA' ?b1 ?b2 ?_))
    case b1 => omega
    case b2 => exact hs11
    intro v2 w13 hown2 hB2
    have hown3 : w13.ownsRow w7.heap.size 56 3 v2 (r ++ r').length (rowList (r ++ r')) := by simpa using hown2
    obtain ⟨A2, c2, rfl, hrow2⟩ := owns_form hown3
    have hall := HW1.out.trans hB2
    have HJK := Lib.hid (HJK.out.kept hall)
    have HROW := Lib.hid hrow2
    have HB := Lib.hid (bt HB.out hall)
    clear hown2 hown3 hB2 hrow2 hall
    go_wp2_with fail
    refine (refSame_eq _ _ _ _ (r.length + r'.length) (r ++ r') _ HJK.out HROW.out (by simp) (by omega)).mono ?_
    rintro e w14 ⟨rfl, hb14⟩
    have HB := Lib.hid (bt HB.out hb14)
    clear hb14
    go_wp2_with fail
    go_ret
    exact ⟨by simp, HB.out⟩

set_option maxRecDepth 100000 in
set_option maxHeartbeats 1000000 in
theorem parts_large (A A' C : Option Addr) (c c' cc : Nat) (r r' : List Va) (cols : List Int) (n : Int) (w : World) (h : RowAt w A r) (h' : RowAt w A' r') (hf : Fine r) (hf' : Fine r')
    (hl : r.length ≤ 9223372036854775807) (hl' : r'.length ≤ 9223372036854775807) (hlc : cols.length ≤ 9223372036854775807) (hbig : largeV r = true ∨ largeV r' = true ∨ 100 < cols.length) :
    Calls Try.prog 6 #[.slice A r.length c, .slice A' r'.length c', .slice C cols.length cc, .int .i64 n] w fun e w' => e = .returned (.bool true) ∧ Below w.heap.size w w' := by
  have HR' := Lib.hid h'
  have HG := Lib.hid hbig
  clear hbig h'
  go_enter Try.func6, Try.ntmps6
  go_wp2_with fail
  refine (large_B A c r w h hf hl).mono ?_
  rintro e w1 ⟨rfl, hb1⟩
  have HB := Lib.hid hb1
  clear hb1
  cases hla : largeV r
  · go_wp2_with fail
    refine (large_B A' c' r' w1 (HR'.out.kept HB.out) hf' hl').mono ?_
    rintro e w2 ⟨rfl, hb2⟩
    have HB := Lib.hid (bt HB.out hb2)
    clear hb2
    cases hlb : largeV r'
    · have hc1 : (100 : Int) < cols.length := by
        rcases HG.out with hx | hx | hx
        · rw [hla] at hx; cases hx
        · rw [hlb] at hx; cases hx
        · omega
      go_wp2_with fail
      refine (lives_yes _).mono ?_
      rintro e w3 ⟨rfl, hb3⟩
      go_wp2_with fail
      go_ret
      exact ⟨rfl, bt HB.out hb3⟩
    · go_wp2_with fail
      refine (lives_yes _).mono ?_
      rintro e w3 ⟨rfl, hb3⟩
      go_wp2_with fail
      go_ret
      exact ⟨rfl, bt HB.out hb3⟩
  · go_wp2_with fail
    refine (lives_yes _).mono ?_
    rintro e w3 ⟨rfl, hb3⟩
    go_wp2_with fail
    go_ret
    exact ⟨rfl, bt HB.out hb3⟩

theorem rowParts_walk (A A' C : Option Addr) (c c' cc : Nat) (r r' : List Va) (cols : List Int) (n : Int) (w : World) (h : RowAt w A r) (h' : RowAt w A' r') (hC : IntsAt w C cols) (hf : Fine r) (hf' : Fine r') (hA : A = none → c = 0) (hA' : A' = none → c' = 0)
    (hl : r.length ≤ 9223372036854775807) (hl' : r'.length ≤ 9223372036854775807) (hlc : cols.length ≤ 9223372036854775807) :
    Calls Try.prog 6 #[.slice A r.length c, .slice A' r'.length c', .slice C cols.length cc, .int .i64 n] w fun e w' => e = .returned (.bool true) ∧ Below w.heap.size w w' := by
  cases hla : largeV r
  case true => exact parts_large A A' C c c' cc r r' cols n w h h' hf hf' hl hl' hlc (.inl hla)
  cases hlb : largeV r'
  case true => exact parts_large A A' C c c' cc r r' cols n w h h' hf hf' hl hl' hlc (.inr (.inl hlb))
  by_cases hcl : 100 < cols.length
  · exact parts_large A A' C c c' cc r r' cols n w h h' hf hf' hl hl' hlc (.inr (.inr hcl))
  have hcl : cols.length ≤ 100 := by omega
  by_cases hP : cols.any (lackV r) = false ∧ cols.length ≤ 32
  · by_cases hJ : 32 < r.length + r'.length
    · by_cases n0 : n < 0
      · exact parts_111 A A' C c c' cc r r' cols n w h h' hC hf hf' hA hA' hla hlb hcl hP.1 hP.2 hJ n0
      · by_cases n1 : 32 < n
        · exact parts_113 A A' C c c' cc r r' cols n w h h' hC hf hf' hA hA' hla hlb hcl hP.1 hP.2 hJ n1
        · exact parts_112 A A' C c c' cc r r' cols n w h h' hC hf hf' hA hA' hla hlb hcl hP.1 hP.2 hJ (by omega) (by omega)
    · have hJ : r.length + r'.length ≤ 32 := by omega
      by_cases n0 : n < 0
      · exact parts_121 A A' C c c' cc r r' cols n w h h' hC hf hf' hA hA' hla hlb hcl hP.1 hP.2 hJ n0
      · by_cases n1 : 32 < n
        · exact parts_123 A A' C c c' cc r r' cols n w h h' hC hf hf' hA hA' hla hlb hcl hP.1 hP.2 hJ n1
        · exact parts_122 A A' C c c' cc r r' cols n w h h' hC hf hf' hA hA' hla hlb hcl hP.1 hP.2 hJ (by omega) (by omega)
  · have hP : 32 < cols.length ∨ cols.any (lackV r) = true := by
      cases hx : cols.any (lackV r)
      · left; rw [hx] at hP; simp at hP; exact hP
      · exact .inr rfl
    by_cases hJ : 32 < r.length + r'.length
    · by_cases n0 : n < 0
      · exact parts_211 A A' C c c' cc r r' cols n w h h' hC hf hf' hA hA' hla hlb hcl hP hJ n0
      · by_cases n1 : 32 < n
        · exact parts_213 A A' C c c' cc r r' cols n w h h' hC hf hf' hA hA' hla hlb hcl hP hJ n1
        · exact parts_212 A A' C c c' cc r r' cols n w h h' hC hf hf' hA hA' hla hlb hcl hP hJ (by omega) (by omega)
    · have hJ : r.length + r'.length ≤ 32 := by omega
      by_cases n0 : n < 0
      · exact parts_221 A A' C c c' cc r r' cols n w h h' hC hf hf' hA hA' hla hlb hcl hP hJ n0
      · by_cases n1 : 32 < n
        · exact parts_223 A A' C c c' cc r r' cols n w h h' hC hf hf' hA hA' hla hlb hcl hP hJ n1
        · exact parts_222 A A' C c c' cc r r' cols n w h h' hC hf hf' hA hA' hla hlb hcl hP hJ (by omega) (by omega)

end Go.Proofs.Ytalkgfkekcocgaa
