/-
  Contracts of row.Nulls and row.Pick, and of the document's own Pick.
-/
import Derived.Test.YtlobgdfmgbedgaaROwn
import Derived.Test.YtlobgdfmgbedgaaRBy
import Derived.Deep.AppendLies
namespace Go.Proofs.Ytlobgdfmgbedgaa
open Go.RowKit Go.Shelf

/-- A row that is told, in new memory, beside a number. -/
def RowEnd (w : World) (r : List Va) (k : Int) (e : Ending) (w' : World) : Prop :=
  ∃ (A : Option Addr) (c : Nat), e = .returned (.tuple #[.slice A r.length c, .int .i64 k]) ∧ RowAt w' A r ∧ Below w.heap.size w w'

theorem info_val : (Try.prog.info? 83).map (fun i => (i.zero, i.size, i.bytes)) = some (some (VV 0 0 ⟨#[]⟩), 3, 32) := by kernel_rfl

theorem make_row (n : Nat) (hn : n ≤ 65536) (w : World) : (Instr.makeSlice 22 (.int .i64 n) (.int .i64 n)).run Try.prog w =
    .ok (.slice (some ⟨w.heap.size, 0, none⟩) n n) (w.alloc (.cells (rowCells (List.replicate n nullA)) 83)) := by
  obtain ⟨i0, hi, hz0, hz1, hz2⟩ := info_parts info_val
  have h := run_make (P := Try.prog) w 22 83 i0 _ Try.underlying22 hi hz0 .i64 .i64 n n (by omega) (Int.le_refl _) (by rw [hz2]; omega) (by omega)
  rw [hz1] at h
  simp only [Int.toNat_natCast] at h
  have e : madeCells (VV 0 0 ⟨#[]⟩).cells (n * 3) = rowCells (List.replicate n nullA) := made_nulls n
  rw [e] at h
  exact h

set_option maxHeartbeats 1000000 in
theorem nulls_ok (n : Nat) (w : World) (hn : n ≤ 32) :
    Calls Try.prog 62 #[.int .i64 n] w (RowEnd w (List.replicate n nullA) 0) := by
  have hmk := make_row n (by omega)
  go_enter Try.func62, Try.ntmps62
  go_wp2_with fail
  have hO := Own.new w 83 (List.replicate n nullA)
  have hB0 := ba w (.cells (rowCells (List.replicate n nullA)) 83)
  generalize (w.alloc (.cells (rowCells (List.replicate n nullA)) 83)) = W at hO hB0 ⊢
  go_loopw [16] (fun i wr => ∃ j : Nat, j ≤ n ∧ i = .int .i64 j ∧ Below w.heap.size w wr ∧ Own wr 83 w.heap.size (List.replicate n nullA)) (fun i _ => n - (intOf i).toNat)
  case atStart => exact ⟨0, Nat.zero_le _, rfl, hB0, hO⟩
  case round =>
    obtain ⟨j, hj, rfl, hB, hOw⟩ := hrel
    by_cases hlt : j < n
    · go_wp2_with fail
      refine (null_any _).mono ?_
      rintro e w1 ⟨rfl, hb1⟩
      have hO1 := hOw.kept hb1
      have hB1 := bt hB hb1
      have HO := Lib.hid hO1
      obtain ⟨c0, c1, c2⟩ := hO1.at (i := j) (v := nullA) (by rw [List.getElem?_replicate]; simp; omega)
      have f0 := hO1.free (j * 3)
      have f1 := hO1.free (j * 3 + 1)
      have f2 := hO1.free (j * 3 + 2)
      clear hb1 hOw hO1 hO hB0
      go_wp2_with fail
      have hp := HO.out.put (i := j) (by simp; omega) nullA
      rw [List.set_replicate_self] at hp
      go_roundw
      case rel => exact ⟨j + 1, by omega, by go_num, ((hB1.setCell (Nat.le_refl _) _).setCell (Nat.le_refl _) _).setCell (Nat.le_refl _) _, hp⟩
      case measure => simp [intOf]; omega
    · go_wp2_with fail
      go_ret2
      exact ⟨some ⟨w.heap.size, 0, none⟩, n, by simp, hOw.row, hB⟩

set_option maxHeartbeats 400000 in
theorem nulls_no (n : Int) (w : World) (hn : n < 0 ∨ 32 < n) :
    Calls Try.prog 62 #[.int .i64 n] w fun e w' => e = .returned (.tuple #[.slice none 0 0, .int .i64 1]) ∧ w = w' := by
  rcases hn with hn | hn
  · go_enter Try.func62, Try.ntmps62
    go_wp2_with fail
    go_ret2
    exact ⟨rfl, rfl⟩
  · have hn' : ¬ n < 0 := by omega
    go_enter Try.func62, Try.ntmps62
    go_wp2_with fail
    go_ret2
    exact ⟨rfl, rfl⟩

/-- Is a place none of the row's? -/
def lackV (r : List Va) (c : Int) : Bool := !(hasV r c)

set_option maxHeartbeats 400000 in
theorem lack_b (b : Bool) (g : Nat) (A : Option Addr) (c : Nat) (r : List Va) (i : Int) (w : World) (hg : w.cell? ⟨g, 0, none⟩ = some (.slice A r.length c)) (h : lackV r i = b) :
    Calls Try.prog 85 #[.int .i64 i, .pointer (some ⟨g, 0, none⟩)] w fun e w' => e = .returned (.bool b) ∧ w = w' := by
  have hb : hasV r i = !b := by rw [← h]; simp [lackV]
  have HH := Lib.hid hb
  clear h hb
  cases b
  all_goals
    go_enter Try.func85, Try.ntmps85
    go_wp2_with fail
    refine (has_b _ _ _ _ _ _ HH.out).mono ?_
    rintro e w1 ⟨rfl, rfl⟩
    go_wp2_with fail
    go_ret
    exact ⟨rfl, rfl⟩

def PlaceEnd (b : Bool) (w : World) (e : Ending) (w' : World) : Prop := ∃ i : Int, -1 ≤ i ∧ decide (0 ≤ i) = b ∧ e = .returned (.int .i64 i) ∧ w = w'

theorem anyi_take_succ (p : Int → Bool) (l : List Int) (i : Nat) (hi : i < l.length) : (l.take (i + 1)).any p = ((l.take i).any p || p l[i]) := by
  rw [List.take_succ_eq_append_getElem hi, List.any_append]
  simp

set_option maxHeartbeats 1000000 in
theorem indexLack_any (g : Nat) (A C : Option Addr) (c cc : Nat) (r : List Va) (cols : List Int) (w : World) (hg : w.cell? ⟨g, 0, none⟩ = some (.slice A r.length c)) (hC : IntsAt w C cols) (hl : cols.length ≤ 9223372036854775807) :
    Calls Try.prog 105 #[.slice C cols.length cc, .func (.func 85) #[] #[.pointer (some ⟨g, 0, none⟩)]] w (PlaceEnd (cols.any (lackV r)) w) := by
  have eg := enters_of Try.func85 (by kernel_rfl) rfl
  unfold Enters at eg
  have HG := Lib.hid hg
  clear hg
  go_enter Try.func105, Try.ntmps105
  go_wp2_with fail
  go_loop [8] (fun i => ∃ j : Nat, j ≤ cols.length ∧ i = .int .i64 j ∧ Hid ((cols.take j).any (lackV r) = false)) (fun i => cols.length - (intOf i).toNat)
  case atStart => exact ⟨0, Nat.zero_le _, rfl, Lib.hid (by simp)⟩
  case round =>
    obtain ⟨j, hj, rfl, HN⟩ := hrel
    by_cases hlt : j < cols.length
    · obtain ⟨b, off, rfl, hb, c0⟩ := hC.at (map_at cols j hlt)
      have HS := Lib.hid (anyi_take_succ (lackV r) cols j hlt)
      have HM := Lib.hid (show lackV r cols[j] = true → cols.any (lackV r) = true from fun hh => List.any_eq_true.2 ⟨_, List.getElem_mem hlt, hh⟩)
      generalize cols[j] = col at c0 HS HM
      clear hC
      cases hbd : lackV r col
      · have HD := Lib.hid hbd
        have HE := Lib.hid (show (cols.take (j + 1)).any (lackV r) = false by rw [HS.out, HN.out, hbd]; rfl)
        clear hbd
        go_wp2_with fail
        refine (lack_b false g A c r _ _ HG.out HD.out).mono ?_
        rintro e w1 ⟨rfl, rfl⟩
        go_wp2_with fail
        go_round
        case rel => exact ⟨j + 1, by omega, by go_num, HE⟩
        case measure => simp [intOf]; omega
      · have HD := Lib.hid hbd
        have HE := Lib.hid (HM.out hbd)
        clear hbd
        go_wp2_with fail
        refine (lack_b true g A c r _ _ HG.out HD.out).mono ?_
        rintro e w1 ⟨rfl, rfl⟩
        go_wp2_with fail
        go_ret
        exact ⟨j, by omega, by rw [HE.out]; simp, rfl, rfl⟩
    · have HE := Lib.hid (show cols.any (lackV r) = false by rw [← HN.out, List.take_of_length_le (by omega)])
      go_wp2_with fail
      go_ret
      exact ⟨-1, by omega, by rw [HE.out]; rfl, rfl, rfl⟩

set_option maxHeartbeats 400000 in
theorem containsLack_b (b : Bool) (g : Nat) (A C : Option Addr) (c cc : Nat) (r : List Va) (cols : List Int) (w : World) (hg : w.cell? ⟨g, 0, none⟩ = some (.slice A r.length c)) (hC : IntsAt w C cols) (hl : cols.length ≤ 9223372036854775807) (hb : cols.any (lackV r) = b) :
    Calls Try.prog 87 #[.slice C cols.length cc, .func (.func 85) #[] #[.pointer (some ⟨g, 0, none⟩)]] w fun e w' => e = .returned (.bool b) ∧ w = w' := by
  have HI := Lib.hid (indexLack_any g A C c cc r cols w hg hC hl)
  rw [hb] at HI
  clear hb hg hC
  go_enter Try.func87, Try.ntmps87
  go_wp2_with fail
  refine HI.out.mono ?_
  rintro e w1 ⟨i, hi0, hi, rfl, rfl⟩
  go_wp2_with fail
  go_ret
  exact ⟨rfl, rfl⟩

/-- What has been picked so far, and nulls. -/
def pickTo (r : List Va) (cols : List Int) (j : Nat) : List Va := (cols.take j).map (atV r) ++ List.replicate (cols.length - j) nullA
theorem pickTo_len (r : List Va) (cols : List Int) (j : Nat) (h : j ≤ cols.length) : (pickTo r cols j).length = cols.length := by
  simp [pickTo]; omega
theorem pickTo_zero (r : List Va) (cols : List Int) : pickTo r cols 0 = List.replicate cols.length nullA := by simp [pickTo]
theorem pickTo_all (r : List Va) (cols : List Int) : pickTo r cols cols.length = cols.map (atV r) := by simp [pickTo]
theorem pickTo_next (r : List Va) (cols : List Int) (j : Nat) (h : j < cols.length) : (pickTo r cols j).set j (atV r cols[j]) = pickTo r cols (j + 1) := by
  unfold pickTo
  have hl : ((cols.take j).map (atV r)).length = j := by simp; omega
  rw [List.set_append_right _ _ (by omega), hl, Nat.sub_self, List.take_succ_eq_append_getElem h, List.map_append, List.append_assoc]
  congr 1
  obtain ⟨m, hm⟩ : ∃ m, cols.length - j = m + 1 := ⟨cols.length - j - 1, by omega⟩
  rw [hm, show cols.length - (j + 1) = m by omega]
  rfl
theorem pickTo_at (r : List Va) (cols : List Int) (j : Nat) (h : j < cols.length) : (pickTo r cols j)[j]? = some nullA := by
  unfold pickTo
  have hl : ((cols.take j).map (atV r)).length = j := by simp; omega
  rw [List.getElem?_append_right (by omega), hl, Nat.sub_self, List.getElem?_replicate]
  simp; omega

set_option maxHeartbeats 2000000 in
theorem pick_ok (A C : Option Addr) (c cc : Nat) (r : List Va) (cols : List Int) (w : World) (h : RowAt w A r) (hC : IntsAt w C cols) (h32 : cols.length ≤ 32) (hall : cols.any (lackV r) = false) :
    Calls Try.prog 60 #[.slice A r.length c, .slice C cols.length cc] w (RowEnd w (cols.map (atV r)) 0) := by
  have hmk := make_row cols.length (by omega)
  have HA := Lib.hid hall
  clear hall
  go_enter Try.func60, Try.ntmps60
  go_wp2_with fail
  refine (containsLack_b false w.heap.size A C c cc r cols _ (by simp) (hC.kept (ba _ _)) (by omega) HA.out).mono ?_
  rintro e w1 ⟨rfl, rfl⟩
  go_wp2_with fail
  have hO := Own.new (w.alloc (.cells #[.slice A r.length c] 22)) 83 (List.replicate cols.length nullA)
  rw [World.size_alloc] at hO
  have hX : ((w.alloc (.cells #[.slice A r.length c] 22)).alloc (.cells (rowCells (List.replicate cols.length nullA)) 83)).cell? ⟨w.heap.size, 0, none⟩ = some (.slice A r.length c) := by
    rw [World.cell?_alloc_lt _ _ _ (by simp)]; simp
  have hB0 := ba2 w (.cells #[.slice A r.length c] 22) (.cells (rowCells (List.replicate cols.length nullA)) 83)
  generalize ((w.alloc (.cells #[.slice A r.length c] 22)).alloc (.cells (rowCells (List.replicate cols.length nullA)) 83)) = W at hO hB0 hX ⊢
  rw [← pickTo_zero r cols] at hO
  go_loopw [24] (fun i wr => ∃ j : Nat, j ≤ cols.length ∧ i = .int .i64 j ∧ Below w.heap.size w wr ∧ Own wr 83 (w.heap.size + 1) (pickTo r cols j) ∧ wr.cell? ⟨w.heap.size, 0, none⟩ = some (.slice A r.length c)) (fun i _ => cols.length - (intOf i).toNat)
  case atStart => exact ⟨0, Nat.zero_le _, rfl, hB0, hO, hX⟩
  case round =>
    obtain ⟨j, hj, rfl, hB, hOw, hXw⟩ := hrel
    have hr := h.kept hB
    have hCr := hC.kept hB
    clear hO hB0 hX h hC
    by_cases hlt : j < cols.length
    · obtain ⟨b, off, rfl, hb, c0⟩ := hCr.at (map_at cols j hlt)
      have hin : hasV r cols[j] = true := by
        have h1 : lackV r cols[j] = false := by
          cases hv : lackV r cols[j]
          · rfl
          · exact absurd (List.any_eq_true.2 ⟨_, List.getElem_mem hlt, hv⟩) (by rw [HA.out]; simp)
        simpa [lackV] using h1
      have HN := Lib.hid (pickTo_next r cols j hlt)
      have HT := Lib.hid (pickTo_at r cols j hlt)
      have HL := Lib.hid (pickTo_len r cols j hj)
      generalize cols[j] = col at c0 hin HN
      have hin2 : 0 ≤ col ∧ col < r.length := by simpa [hasV] using hin
      obtain ⟨N, rfl⟩ := Int.eq_ofNat_of_zero_le hin2.1
      have hNl : N < r.length := by omega
      have hNi : (N : Int) < (r.length : Int) := by omega
      have hji : (j : Int) < (cols.length : Int) := by omega
      obtain ⟨b', off', rfl, hb', d0, d1, d2⟩ := hr.at hNl
      have e1 := atV_in r N hNl
      rw [← e1] at d0 d1 d2
      generalize atV r (N : Int) = v at d0 d1 d2 HN
      obtain ⟨x0, x1, x2⟩ := hOw.at HT.out
      have f0 := hOw.free (j * 3)
      have f1 := hOw.free (j * 3 + 1)
      have f2 := hOw.free (j * 3 + 2)
      have HO := Lib.hid hOw
      clear hCr hr hin hin2 e1 hOw
      go_wp2_with fail
      have hp := HO.out.put (i := j) (by rw [HL.out]; exact hlt) v
      rw [HN.out] at hp
      go_roundw
      case rel =>
        refine ⟨j + 1, by omega, by go_num, ((hB.setCell (Nat.le_succ _) _).setCell (Nat.le_succ _) _).setCell (Nat.le_succ _) _, hp, ?_⟩
        rw [World.cell?_setCell_other _ _ _ _ (by simp), World.cell?_setCell_other _ _ _ _ (by simp), World.cell?_setCell_other _ _ _ _ (by simp)]
        exact hXw
      case measure => simp [intOf]; omega
    · obtain rfl : j = cols.length := by omega
      rw [pickTo_all] at hOw
      go_wp2_with fail
      go_ret2
      exact ⟨some ⟨w.heap.size + 1, 0, none⟩, cols.length, by simp, hOw.row, hB⟩

set_option maxHeartbeats 400000 in
theorem pick_no (A C : Option Addr) (c cc : Nat) (r : List Va) (cols : List Int) (w : World) (hC : IntsAt w C cols) (hl : cols.length ≤ 9223372036854775807) (hno : 32 < cols.length ∨ cols.any (lackV r) = true) :
    Calls Try.prog 60 #[.slice A r.length c, .slice C cols.length cc] w fun e w' => e = .returned (.tuple #[.slice none 0 0, .int .i64 1]) ∧ Below w.heap.size w w' := by
  by_cases h32 : 32 < cols.length
  · clear hno hC
    go_enter Try.func60, Try.ntmps60
    go_wp2_with fail
    go_ret2
    exact ⟨rfl, ba _ _⟩
  · have HA := Lib.hid (show cols.any (lackV r) = true from hno.resolve_left h32)
    clear hno
    go_enter Try.func60, Try.ntmps60
    go_wp2_with fail
    refine (containsLack_b true w.heap.size A C c cc r cols _ (by simp) (hC.kept (ba _ _)) hl HA.out).mono ?_
    rintro e w1 ⟨rfl, rfl⟩
    go_wp2_with fail
    go_ret2
    exact ⟨rfl, ba _ _⟩

/-- A row that is told, in new memory, beside a bool. -/
def RowEndB (w : World) (r : List Va) (k : Bool) (e : Ending) (w' : World) : Prop :=
  ∃ (A : Option Addr) (c : Nat), e = .returned (.tuple #[.slice A r.length c, .bool k]) ∧ RowAt w' A r ∧ Below w.heap.size w w'
/-- A row refused: nothing is told, and false. -/
def NoneEndB (w : World) (e : Ending) (w' : World) : Prop := e = .returned (.tuple #[.slice none 0 0, .bool false]) ∧ Below w.heap.size w w'

theorem owns_form {w : World} {base : Nat} {e : TypeId} {v : Value} {l : List Va} (h : w.ownsRow base e 3 v l.length (rowList l)) : ∃ A c, v = .slice A l.length c ∧ RowAt w A l := by
  rcases h.2 with ⟨hv, hn⟩ | ⟨g, cap, cur, hv, _⟩
  · refine ⟨none, 0, ?_, .inl (List.eq_nil_of_length_eq_zero hn)⟩
    rw [hn]; exact hv
  · subst hv
    exact ⟨_, _, rfl, row_of_owns h⟩

set_option maxRecDepth 100000 in
set_option maxHeartbeats 2000000 in
theorem refPick_any (A C : Option Addr) (c cc : Nat) (r : List Va) (cols : List Int) (w : World) (h : RowAt w A r) (hC : IntsAt w C cols) (hl : cols.length ≤ 65536) :
    Calls Try.prog 41 #[.slice A r.length c, .slice C cols.length cc] w
      (match cols.any (lackV r) with | false => RowEndB w (cols.map (atV r)) (decide (cols.length ≤ 32)) | true => NoneEndB w) := by
  obtain ⟨i0, hi, hz0, hz1, hz2⟩ := info_parts info_val
  generalize hQ : (match cols.any (lackV r) with | false => RowEndB w (cols.map (atV r)) (decide (cols.length ≤ 32)) | true => NoneEndB w) = Q
  have HQ := Lib.hid hQ
  clear hQ
  go_enter Try.func41, Try.ntmps41
  go_wp2_with fail
  go_loopw [6, 7] (fun v i wr => ∃ j : Nat, j ≤ cols.length ∧ i = .int .i64 j ∧ Below w.heap.size w wr ∧ wr.ownsRow w.heap.size 83 3 v j (rowList ((cols.take j).map (atV r))) ∧ Hid ((cols.take j).any (lackV r) = false)) (fun _ i _ => cols.length - (intOf i).toNat)
  case atStart => exact ⟨0, Nat.zero_le _, rfl, Below.refl _ _, World.ownsRow_nil _ _ _ _, Lib.hid (by simp)⟩
  case round =>
    obtain ⟨j, hj, rfl, hB, hown, HN⟩ := hrel
    have hr := h.kept hB
    have hCr := hC.kept hB
    clear h hC
    by_cases hlt : j < cols.length
    · obtain ⟨b, off, rfl, hb, c0⟩ := hCr.at (map_at cols j hlt)
      have HS := Lib.hid (anyi_take_succ (lackV r) cols j hlt)
      have HM := Lib.hid (show lackV r cols[j] = true → cols.any (lackV r) = true from fun hh => List.any_eq_true.2 ⟨_, List.getElem_mem hlt, hh⟩)
      have HT := Lib.hid (show rowList ((cols.take (j + 1)).map (atV r)) = rowList ((cols.take j).map (atV r)) ++ (atV r cols[j]).cells by
        rw [List.take_succ_eq_append_getElem hlt, List.map_append, rowList_append]; simp [rowList])
      generalize cols[j] = col at c0 HS HM HT
      have hji : (j : Int) < (cols.length : Int) := by omega
      clear hCr
      cases hbd : lackV r col
      · have HE := Lib.hid (show (cols.take (j + 1)).any (lackV r) = false by rw [HS.out, HN.out, hbd]; rfl)
        have hin2 : 0 ≤ col ∧ col < r.length := by simpa [lackV, hasV] using hbd
        obtain ⟨N, rfl⟩ := Int.eq_ofNat_of_zero_le hin2.1
        have hNl : N < r.length := by omega
        have hNi : (N : Int) < (r.length : Int) := by omega
        obtain ⟨b', off', rfl, hb', d0, d1, d2⟩ := hr.at hNl
        have e1 := atV_in r N hNl
        rw [← e1] at d0 d1 d2
        generalize atV r (N : Int) = v at d0 d1 d2 HT
        clear hbd hin2 hr e1
        have HB := Lib.hid hB
        clear hB
        generalize rowList ((cols.take j).map (atV r)) = L at hown HT
        go_wp2_with (at_builtin; refine wpList_append_own _ rfl _ _ 22 rfl w.heap.size 83 i0 _ 3 32 Try.underlying22 hi hz0 hz1 hz2 rfl (by decide) _ _ _ rfl (hown.alloc _) ⟨wr.heap.size, 0, none⟩ 1 1 [.int .i64 v.k, .int .i64 v.n, .string v.s] rfl rfl ?c1 ?c2 ?c3 ?c4 ?c5 ?_)
        case c1 => exact World.news_of_block (heap_alloc_new wr _)
        case c2 => simp [Value.oneCell']
        case c3 => unfold maxLen; omega
        case c4 => omega
        case c5 => have := HB.out.size; simp; omega
        intro v' w1 hown1 hgrow _
        have hB1 := (HB.out.alloc HB.out.size _).grown hgrow (by have := HB.out.size; simp; omega) (fun k hk => (hown.lt k hk).1)
        have HO := Lib.hid hown1
        clear hown hown1 hgrow
        go_wp2_with fail
        go_roundw
        case rel => exact ⟨j + 1, by omega, by go_num, hB1, by rw [HT.out]; exact HO.out, HE⟩
        case measure => simp [intOf]; omega
      · have HE := Lib.hid (show Q = NoneEndB w by rw [← HQ.out, HM.out hbd])
        have hno : col < 0 ∨ (0 ≤ col ∧ (r.length : Int) ≤ col) := by
          simp [lackV, hasV] at hbd
          omega
        clear hbd
        rcases hno with hno | ⟨hno, hno2⟩
        · go_wp2_with fail
          rw [HE.out]
          exact ⟨rfl, hB⟩
        · have hno1 : ¬ col < 0 := by omega
          go_wp2_with fail
          rw [HE.out]
          exact ⟨rfl, hB⟩
    · obtain rfl : j = cols.length := by omega
      have HE := Lib.hid (show Q = RowEndB w (cols.map (atV r)) (decide (cols.length ≤ 32)) by
        have := HN.out
        rw [List.take_length] at this
        rw [← HQ.out, this])
      have hown' : wr.ownsRow w.heap.size 83 3 u6 (cols.map (atV r)).length (rowList (cols.map (atV r))) := by simpa using hown
      obtain ⟨A', c', hv, hrow⟩ := owns_form hown'
      subst hv
      have HR := Lib.hid hrow
      clear hown hown' hrow
      go_wp2_with fail
      rw [HE.out]
      exact ⟨A', c', by simp <;> omega, HR.out, hB⟩

end Go.Proofs.Ytlobgdfmgbedgaa
