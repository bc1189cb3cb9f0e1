/-
  Contract of row.readValue.
-/
import Derived.Test.YtdjhoiamongdaaaRPut
import Derived.Test.YtdjhoiamongdaaaRCmp
import Derived.Laws.BytesArg
import Derived.Laws.BitsAllLaws
namespace Go.Proofs.Ytdjhoiamongdaaa
open Go.RowKit Go.Shelf

/-- Where b[l:] begins. -/
def adv (A : Option Addr) (c l : Nat) : Option Addr := if c = l then A else A.map (·.add (l * 1))

def BytesAt (w : World) (A : Option Addr) (bs : List Int) : Prop := CellsAt w A (bs.map (Value.int .u8)) ∧ ∀ x ∈ bs, 0 ≤ x ∧ x < 256

theorem size_byte : ∀ w, (sizeOf 5).run Try.prog w = .ok 1 w := by
  intro w
  obtain ⟨i0, hi, hz0, hz1, hz2⟩ := info_parts info_byte
  simp [sizeOf, typeInfo, hi, hz1]

theorem run_from (A : Option Addr) (L c l : Nat) (hl : l ≤ L) (W : World) :
    (Instr.slice 25 (.slice A L c) (some (.int .i64 (l : Int))) none none).run Try.prog W = .ok (.slice (adv A c l) (L - l) (c - l)) W := by
  have ht := Try.underlying25
  have ht' : Try.prog.underlying 25 = some (.slice (Try.prog.elem 25)) := by simp [Program.elem, ht]
  have he : Try.prog.elem 25 = 5 := by simp [Program.elem, ht]
  rw [run_slice_l W _ _ _ _ ht' .i64 _ (by omega) (by omega), he, size_byte]
  simp [Result.andThen, sliced, adv]

theorem BytesAt.kept {w w' : World} {A : Option Addr} {bs : List Int} (h : BytesAt w A bs) (hb : Below w.heap.size w w') : BytesAt w' A bs := ⟨h.1.kept hb, h.2⟩
theorem BytesAt.drop {w : World} {A : Option Addr} {bs : List Int} (h : BytesAt w A bs) (c l : Nat) (hc : bs.length ≤ c) : BytesAt w (adv A c l) (bs.drop l) := by
  refine ⟨?_, fun x hx => h.2 x (List.mem_of_mem_drop hx)⟩
  rcases h.1 with h0 | ⟨b, off, rfl, hb, hcell⟩
  · left; simp at h0; simp [h0]
  · by_cases hl : c = l
    · left; rw [List.drop_eq_nil_of_le (by omega)]; rfl
    · right
      refine ⟨b, off + l, ?_, hb, fun i v hv => ?_⟩
      · simp [adv, hl, Addr.add]
      · rw [List.map_drop, List.getElem?_drop] at hv
        rw [Nat.add_assoc]
        exact hcell _ _ hv
theorem BytesAt.take {w : World} {A : Option Addr} {bs : List Int} (h : BytesAt w A bs) (l : Nat) : BytesAt w A (bs.take l) := by
  refine ⟨?_, fun x hx => h.2 x (List.mem_of_mem_take hx)⟩
  rcases h.1 with h0 | ⟨b, off, rfl, hb, hcell⟩
  · left; simp at h0; simp [h0]
  · right
    refine ⟨b, off, rfl, hb, fun i v hv => hcell i v ?_⟩
    rw [List.map_take] at hv
    rcases Nat.lt_or_ge i l with hi | hi
    · rwa [List.getElem?_take_of_lt hi] at hv
    · rw [List.getElem?_eq_none (by simp; omega)] at hv; cases hv
theorem BytesAt.at {w : World} {A : Option Addr} {bs : List Int} (h : BytesAt w A bs) {i : Nat} {x : Int} (hx : bs[i]? = some x) :
    ∃ b off : Nat, A = some ⟨b, off, none⟩ ∧ b < w.heap.size ∧ w.cell? ⟨b, off + i, none⟩ = some (.int .u8 x) ∧ 0 ≤ x ∧ x < 256 := by
  rcases h.1 with h0 | ⟨b, off, rfl, hb, hcell⟩
  · simp at h0; simp [h0] at hx
  · exact ⟨b, off, rfl, hb, hcell i _ (by simp [hx]), (h.2 x (List.mem_of_getElem? hx)).1, (h.2 x (List.mem_of_getElem? hx)).2⟩
theorem BytesAt.str {w : World} {A : Option Addr} {bs : List Int} (h : BytesAt w A bs) (c : Nat) :
    (convert 25 9 (.slice A bs.length c)).run Try.prog w = .ok (.string (strOfNums bs)) w := by
  rcases h.1 with h0 | ⟨b, off, rfl, hb, hcell⟩
  · simp at h0; subst h0
    show (convert 25 9 (.slice A 0 c)).run Try.prog w = _
    rw [run_convert_bytes_string w _ _ _ A 0 c Try.underlying25 Try.underlying5 Try.underlying9]
    cases A <;> simp [Conv.bytesToString, loadCells, strOfNums] <;> rfl
  · refine run_convert_bytes_arg w _ _ Try.underlying25 Try.underlying5 b off bs.length c bs rfl (fun i hi => ?_) _ Try.underlying9
    refine hcell i _ ?_
    simp [List.getD, List.getElem?_eq_getElem hi]

/-- The number that bytes are. -/
def num (l : List Int) : Int := l.foldl (fun a x => a * 256 + x) 0
theorem num_succ (l : List Int) (j : Nat) (h : j < l.length) : num (l.take (j + 1)) = num (l.take j) * 256 + l[j] := by
  unfold num
  rw [List.take_succ_eq_append_getElem h, List.foldl_append]; rfl

/-- The box of a result, behind calls. -/
theorem boxR {w w1 : World} {a0 a1 a2 : Value} {T : TypeId} (hb : Below (w.alloc (.cells #[a0, a1, a2] T)).heap.size (w.alloc (.cells #[a0, a1, a2] T)) w1) :
    w1.cell? ⟨w.heap.size, 0, none⟩ = some a0 ∧ w1.cell? ⟨w.heap.size, 1, none⟩ = some a1 ∧ w1.cell? ⟨w.heap.size, 2, none⟩ = some a2 ∧
    w1.frozen? ⟨w.heap.size, 0, none⟩ = false ∧ w1.frozen? ⟨w.heap.size, 1, none⟩ = false ∧ w1.frozen? ⟨w.heap.size, 2, none⟩ = false := by
  obtain ⟨c0, c1, c2⟩ := box1 hb
  refine ⟨c0, c1, c2, ?_, ?_, ?_⟩
  all_goals
    rw [hb.frozen (by simp)]
    exact World.frozen?_alloc_new w _ _ _

theorem at_nil {w : World} {A : Option Addr} {bs : List Int} (h : BytesAt w A bs) {x : Int} (hx : bs[0]? = some x) :
    ∃ b off : Nat, A = some ⟨b, off, none⟩ ∧ b < w.heap.size ∧ w.cell? ⟨b, off, none⟩ = some (.int .u8 x) ∧ 0 ≤ x ∧ x < 256 := by
  obtain ⟨b, off, e, hb, c0, r⟩ := h.at hx
  exact ⟨b, off, e, hb, by simpa using c0, r⟩

set_option maxHeartbeats 1000000 in
theorem read_null (A : Option Addr) (L c : Nat) (bs : List Int) (w : World) (h : BytesAt w A bs) (h0 : bs[0]? = some 0) (hL : bs.length = L) :
    Calls Try.prog 116 #[.slice A L c] w fun e w' => e = .returned (VV 0 0 ⟨#[]⟩) ∧ Below w.heap.size w w' := by
  obtain ⟨b, off, rfl, hb, c0, _, _⟩ := at_nil h h0
  have hl : 0 < L := by rw [← hL]; exact (List.getElem?_eq_some_iff.1 h0).1
  clear h
  go_enter Try.func116, Try.ntmps116
  go_wp2_with fail
  refine (null_any _).mono ?_
  rintro e w1 ⟨rfl, hb1⟩
  obtain ⟨d0, d1, d2, f0, f1, f2⟩ := boxR hb1
  have HB := Lib.hid (bt (ba w _) hb1)
  clear hb1
  go_wp2_with fail
  refine bodyPost_ret (v := VV 0 0 ⟨#[]⟩) (by simp [results, Try.results116, go_sem, d0, d1, d2]) rfl ⟨rfl, ?_⟩
  exact ((HB.out.setCell (Nat.le_refl _) _).setCell (Nat.le_refl _) _).setCell (Nat.le_refl _) _

set_option maxHeartbeats 1000000 in
theorem read_bool (A : Option Addr) (L c : Nat) (bs : List Int) (x : Int) (w : World) (h : BytesAt w A bs) (h0 : bs[0]? = some 1) (h1 : bs[1]? = some x) (hL : bs.length = L) :
    Calls Try.prog 116 #[.slice A L c] w fun e w' => e = .returned (VV 1 x ⟨#[]⟩) ∧ Below w.heap.size w w' := by
  obtain ⟨b, off, rfl, hb, c0, _, _⟩ := at_nil h h0
  obtain ⟨b', off', e, _, c1, hx0, hx1⟩ := h.at h1
  cases e
  have hl : 1 < L := by rw [← hL]; exact (List.getElem?_eq_some_iff.1 h1).1
  clear h
  go_enter Try.func116, Try.ntmps116
  go_wp2_with fail
  refine bodyPost_ret (v := VV 1 x ⟨#[]⟩) (by simp [results, Try.results116, go_sem]) rfl ⟨rfl, ?_⟩
  exact ba _ _

set_option maxHeartbeats 1000000 in
theorem read_text (A : Option Addr) (L c : Nat) (bs : List Int) (w : World) (h : BytesAt w A bs) (h0 : bs[0]? = some 3) (hl : 2 ≤ L) (hL : bs.length = L) (hc : L ≤ c) :
    Calls Try.prog 116 #[.slice A L c] w fun e w' => e = .returned (VV 3 0 (strOfNums (bs.drop 2))) ∧ Below w.heap.size w w' := by
  have hcv := ((h.kept (ba w (.cells #[.int .i64 0, .int .i64 0, .string ⟨#[]⟩] 94))).drop c 2 (by omega)).str (c - 2)
  rw [List.length_drop, hL] at hcv
  obtain ⟨b, off, rfl, hb, c0, _, _⟩ := at_nil h h0
  clear h
  generalize strOfNums (bs.drop 2) = s at hcv ⊢
  by_cases h2 : c = 2
  · obtain rfl : L = 2 := by omega
    subst h2
    rw [show adv (some ⟨b, off, none⟩) 2 2 = some ⟨b, off, none⟩ by simp [adv]] at hcv
    simp only [Nat.sub_self] at hcv
    go_enter Try.func116, Try.ntmps116
    go_wp2_with fail
    refine (text_any _ _).mono ?_
    rintro e w1 ⟨rfl, hb1⟩
    obtain ⟨d0, d1, d2, f0, f1, f2⟩ := boxR hb1
    have HB := Lib.hid (bt (ba w _) hb1)
    clear hb1
    go_wp2_with fail
    refine bodyPost_ret (v := VV 3 0 s) (by simp [results, Try.results116, go_sem, d0, d1, d2]) rfl ⟨rfl, ?_⟩
    exact ((HB.out.setCell (Nat.le_refl _) _).setCell (Nat.le_refl _) _).setCell (Nat.le_refl _) _
  · rw [show adv (some ⟨b, off, none⟩) c 2 = some ⟨b, off + 2, none⟩ by simp [adv, h2, Addr.add]] at hcv
    have hl' : (2 : Int) ≤ L := by omega
    go_enter Try.func116, Try.ntmps116
    go_wp2_with fail
    refine (text_any _ _).mono ?_
    rintro e w1 ⟨rfl, hb1⟩
    obtain ⟨d0, d1, d2, f0, f1, f2⟩ := boxR hb1
    have HB := Lib.hid (bt (ba w _) hb1)
    clear hb1
    go_wp2_with fail
    refine bodyPost_ret (v := VV 3 0 s) (by simp [results, Try.results116, go_sem, d0, d1, d2]) rfl ⟨rfl, ?_⟩
    exact ((HB.out.setCell (Nat.le_refl _) _).setCell (Nat.le_refl _) _).setCell (Nat.le_refl _) _

theorem or_byte (m x : Int) (h0 : 0 ≤ m) (h1 : m < 281474976710656) (x0 : 0 ≤ x) (x1 : x < 256) : bits .or .i64 (m * 256) x = m * 256 + x := by
  obtain ⟨M, rfl⟩ := Int.eq_ofNat_of_zero_le h0
  obtain ⟨X, rfl⟩ := Int.eq_ofNat_of_zero_le x0
  have e : (M : Int) * 256 = ((M * 256 : Nat) : Int) := by omega
  have ho : M * 256 ||| X = M * 256 + X := by
    rw [show M * 256 = M <<< 8 by rw [Nat.shiftLeft_eq], Nat.shiftLeft_add_eq_or_of_lt (by omega : X < 2 ^ 8)]
  rw [e]
  show IntKind.i64.wrap ((BitVec.ofInt 64 ((M * 256 : Nat) : Int) ||| BitVec.ofInt 64 (X : Int)).toNat : Int) = _
  rw [BitVec.toNat_or, BitVec.ofInt_natCast, BitVec.ofInt_natCast, BitVec.toNat_ofNat, BitVec.toNat_ofNat, Nat.mod_eq_of_lt (by omega), Nat.mod_eq_of_lt (by omega), ho, IntKind.wrap_i64]
  omega

theorem num_take_le (t : List Int) (ht : ∀ x ∈ t, 0 ≤ x ∧ x < 256) : ∀ j : Nat, 0 ≤ num (t.take j) ∧ num (t.take j) < 256 ^ j
  | 0 => by simp [num]
  | j + 1 => by
    have ih := num_take_le t ht j
    by_cases hj : j < t.length
    · rw [num_succ t j hj, Int.pow_succ]
      have := ht t[j] (List.getElem_mem hj)
      omega
    · rw [List.take_of_length_le (by omega : t.length ≤ j + 1)]
      rw [List.take_of_length_le (by omega : t.length ≤ j)] at ih
      rw [Int.pow_succ]
      omega

set_option maxHeartbeats 1000000 in
theorem read_int (A : Option Addr) (c : Nat) (bs : List Int) (w : World) (h : BytesAt w A bs) (h0 : bs[0]? = some 2) (hL : bs.length = 8) (hc : 8 ≤ c) :
    Calls Try.prog 116 #[.slice A 8 c] w fun e w' => e = .returned (VV 2 (num (bs.drop 1) - 9007199254740992) ⟨#[]⟩) ∧ Below w.heap.size w w' := by
  obtain ⟨b, off, rfl, hb, c0, _, _⟩ := at_nil h h0
  have hd := h.drop c 1 (by omega)
  have hc1 : c ≠ 1 := by omega
  rw [show adv (some ⟨b, off, none⟩) c 1 = some ⟨b, off + 1, none⟩ by simp [adv, hc1, Addr.add]] at hd
  have hdl : (bs.drop 1).length = 7 := by simp [hL]
  generalize bs.drop 1 = t at hd hdl ⊢
  have hr := num_take_le t hd.2
  clear h
  have h1c : (1 : Nat) ≤ c := by omega
  go_enter Try.func116, Try.ntmps116
  go_wp2_with fail
  have hB0 := ba w (.cells #[.int .i64 0, .int .i64 0, .string ⟨#[]⟩] 94)
  have hX := boxR (w := w) (a0 := .int .i64 0) (a1 := .int .i64 0) (a2 := .string ⟨#[]⟩) (T := 94) (Below.refl _ _)
  have hdW := hd.kept hB0
  have hsz := World.size_alloc w (.cells #[.int .i64 0, .int .i64 0, .string ⟨#[]⟩] 94)
  generalize w.alloc (.cells #[.int .i64 0, .int .i64 0, .string ⟨#[]⟩] 94) = W at hB0 hX hdW hsz ⊢
  go_loopw [3, 22] (fun v i wr => wr = W ∧ ∃ j : Nat, j ≤ 7 ∧ i = .int .i64 j ∧ v = .int .i64 (num (t.take j))) (fun _ i _ => 7 - (intOf i).toNat)
  case atStart => exact ⟨rfl, 0, by omega, rfl, rfl⟩
  case round =>
    obtain ⟨rfl, j, hj, rfl, rfl⟩ := hrel
    by_cases hlt : j < 7
    · have hjl : j < t.length := by omega
      obtain ⟨b', off', e', hb', c1, x0, x1⟩ := hdW.at (List.getElem?_eq_getElem hjl)
      cases e'
      have HS := Lib.hid (num_succ t j hjl)
      have hrj := hr j
      have hp : (256 : Int) ^ j ≤ 256 ^ 6 := by
        have : j = 0 ∨ j = 1 ∨ j = 2 ∨ j = 3 ∨ j = 4 ∨ j = 5 ∨ j = 6 := by omega
        rcases this with rfl | rfl | rfl | rfl | rfl | rfl | rfl <;> decide
      generalize t[j] = x at c1 x0 x1 HS
      generalize num (t.take j) = m at HS hrj ⊢
      have hm0 : 0 ≤ m := hrj.1
      have hm1 : m < 281474976710656 := by have := hrj.2; omega
      have HO := Lib.hid (or_byte m x hm0 hm1 x0 x1)
      clear hrj hp hr
      go_wp2_with fail
      refine ⟨⟨trivial, j + 1, by omega, by go_num, ?_⟩, by simp [intOf]; omega⟩
      rw [HO.out, HS.out]
    · obtain rfl : j = 7 := by omega
      have hr7 := hr 7
      rw [List.take_of_length_le (by omega)] at hr7 ⊢
      have hm0 : 0 ≤ num t := hr7.1
      have hm1 : num t < 72057594037927936 := by have := hr7.2; omega
      generalize hm : num t = m at hm0 hm1 ⊢
      have HM := Lib.hid hm
      clear hr7 hr hm
      go_wp2_with fail
      refine (int_any _ _).mono ?_
      rintro e w1 ⟨rfl, hb1⟩
      obtain ⟨d0, d1, d2, f0, f1, f2⟩ := hX
      have hlt' : w.heap.size < wr.heap.size := by omega
      have d0 := (hb1.cell (p := ⟨w.heap.size, 0, none⟩) hlt').trans d0
      have d1 := (hb1.cell (p := ⟨w.heap.size, 1, none⟩) hlt').trans d1
      have d2 := (hb1.cell (p := ⟨w.heap.size, 2, none⟩) hlt').trans d2
      have f0 := (hb1.frozen (p := ⟨w.heap.size, 0, none⟩) hlt').trans f0
      have f1 := (hb1.frozen (p := ⟨w.heap.size, 1, none⟩) hlt').trans f1
      have f2 := (hb1.frozen (p := ⟨w.heap.size, 2, none⟩) hlt').trans f2
      have HB := Lib.hid (bt hB0 hb1)
      clear hb1
      go_wp2_with fail
      refine bodyPost_ret (v := VV 2 (m - 9007199254740992) ⟨#[]⟩) (by simp [results, Try.results116, go_sem, d0, d1, d2]) rfl ⟨by rw [HM.out], ?_⟩
      exact ((HB.out.setCell (Nat.le_refl _) _).setCell (Nat.le_refl _) _).setCell (Nat.le_refl _) _

end Go.Proofs.Ytdjhoiamongdaaa
