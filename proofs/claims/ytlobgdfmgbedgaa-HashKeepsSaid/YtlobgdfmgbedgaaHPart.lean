/-
  Contracts of hash.Row, hash.Part and of the document's own Part.
-/
import Derived.Test.YtlobgdfmgbedgaaHByt
import Derived.Test.YtlobgdfmgbedgaaRRPut
import Derived.Test.YtlobgdfmgbedgaaRCod0
namespace Go.Proofs.Ytlobgdfmgbedgaa
open Go.RowKit Go.Shelf

/-- The seed of a level; which levels and numbers of parts may be; a row's part. -/
def lvlH (s l : Int) : Int := IntKind.u64.wrap (s + l * 2654435769)
def mayH (l fan : Int) : Bool := decide (0 ≤ l) && decide (l ≤ 8) && decide (1 ≤ fan) && decide (fan ≤ 64)
def partH (s l fan : Int) (r : List Va) : Int := numH (lvlH s l) (putR r) % fan
theorem mayH_parts {l fan : Int} (h : mayH l fan = true) : 0 ≤ l ∧ l ≤ 8 ∧ 1 ≤ fan ∧ fan ≤ 64 := by
  simp [mayH] at h; omega
theorem partH_range (s l fan : Int) (r : List Va) (h1 : 1 ≤ fan) : 0 ≤ partH s l fan r ∧ partH s l fan r < fan :=
  ⟨Int.emod_nonneg _ (by omega), Int.emod_lt_of_pos _ (by omega)⟩

set_option maxHeartbeats 400000 in
theorem mayPart_b (b : Bool) (l fan : Int) (w : World) (h : mayH l fan = b) :
    Calls Try.prog 78 #[.int .i64 l, .int .i64 fan] w fun e w' => e = .returned (.bool b) ∧ w = w' := by
  have HH := Lib.hid h
  clear h
  by_cases h1 : 0 ≤ l <;> by_cases h2 : l ≤ 8 <;> by_cases h3 : 1 ≤ fan <;> by_cases h4 : fan ≤ 64
  all_goals
    go_enter Try.func78, Try.ntmps78
    go_wp2_with fail
    go_ret
    exact ⟨ret_bool (by rw [← HH.out]; simp [mayH, h1, h2, h3, h4]), rfl⟩
set_option maxHeartbeats 400000 in
theorem refMay_b (b : Bool) (l fan : Int) (w : World) (h : mayH l fan = b) :
    Calls Try.prog 35 #[.int .i64 l, .int .i64 fan] w fun e w' => e = .returned (.bool b) ∧ w = w' := by
  have HH := Lib.hid h
  clear h
  by_cases h1 : 0 ≤ l <;> by_cases h2 : l ≤ 8 <;> by_cases h3 : 1 ≤ fan <;> by_cases h4 : fan ≤ 64
  all_goals
    go_enter Try.func35, Try.ntmps35
    go_wp2_with fail
    go_ret
    exact ⟨ret_bool (by rw [← HH.out]; simp [mayH, h1, h2, h3, h4]), rfl⟩

set_option maxHeartbeats 400000 in
theorem levelSeed_any (s l : Int) (w : World) (h0 : 0 ≤ l) (h8 : l ≤ 8) :
    Calls Try.prog 79 #[.int .u64 s, .int .i64 l] w fun e w' => e = .returned (.int .u64 (lvlH s l)) ∧ w = w' := by
  go_enter Try.func79, Try.ntmps79
  go_wp2_with fail
  go_ret
  exact ⟨rfl, rfl⟩

set_option maxHeartbeats 400000 in
theorem hashRow_ok (A : Option Addr) (c : Nat) (s : Int) (r : List Va) (w : World) (h : RowAt w A r) (hf : Fine r) (hok : okR r = true) :
    Calls Try.prog 31 #[.int .u64 s, .slice A r.length c] w fun e w' => e = .returned (.tuple #[.int .u64 (numH s (putR r)), .int .i64 0]) ∧ Below w.heap.size w w' := by
  have HK := Lib.hid (put_ok A c r w h hf hok)
  have HY := Lib.hid (putR_byte r hok)
  have HL := Lib.hid (putR_length r)
  have hs := sumV_le r (okR_parts hok).2
  have h32 := (okR_parts hok).1
  clear h hf hok
  go_enter Try.func31, Try.ntmps31
  go_wp2_with fail
  refine HK.out.mono ?_
  rintro e w1 ⟨g, rfl, hbuf, hb1⟩
  have HB := Lib.hid (hbuf.bytes HY.out)
  have HW := Lib.hid hb1
  clear hbuf hb1
  rw [← HL.out]
  have hl : (putR r).length ≤ 9223372036854775807 := by rw [HL.out]; omega
  go_wp2_with fail
  refine (hashBytes_any _ _ s (putR r) _ HB.out hl).mono ?_
  rintro e w2 ⟨rfl, hb2⟩
  have HW := Lib.hid (bt HW.out hb2)
  clear hb2
  go_wp2_with fail
  go_ret2
  exact ⟨rfl, HW.out⟩
set_option maxHeartbeats 400000 in
theorem hashRow_no (A : Option Addr) (c : Nat) (s : Int) (r : List Va) (w : World) (h : RowAt w A r) (hf : Fine r) (hl : r.length ≤ 9223372036854775807) (hok : okR r = false) :
    Calls Try.prog 31 #[.int .u64 s, .slice A r.length c] w fun e w' => e = .returned (.tuple #[.int .u64 0, .int .i64 20]) ∧ Below w.heap.size w w' := by
  have HK := Lib.hid (put_no A c r w h hf hl hok)
  clear h hf hok
  go_enter Try.func31, Try.ntmps31
  go_wp2_with fail
  refine HK.out.mono ?_
  rintro e w1 ⟨rfl, hb1⟩
  go_wp2_with fail
  go_ret2
  exact ⟨rfl, hb1⟩

set_option maxHeartbeats 400000 in
theorem part_may (A : Option Addr) (c : Nat) (s l fan : Int) (r : List Va) (w : World) (hm : mayH l fan = false) :
    Calls Try.prog 34 #[.int .u64 s, .int .i64 l, .int .i64 fan, .slice A r.length c] w fun e w' => e = .returned (.tuple #[.int .i64 0, .int .i64 1]) ∧ w = w' := by
  have HM := Lib.hid hm
  clear hm
  go_enter Try.func34, Try.ntmps34
  go_wp2_with fail
  refine (mayPart_b false l fan _ HM.out).mono ?_
  rintro e w1 ⟨rfl, rfl⟩
  go_wp2_with fail
  go_ret2
  exact ⟨rfl, rfl⟩
set_option maxHeartbeats 400000 in
theorem part_no (A : Option Addr) (c : Nat) (s l fan : Int) (r : List Va) (w : World) (hm : mayH l fan = true) (h : RowAt w A r) (hf : Fine r) (hl : r.length ≤ 9223372036854775807) (hok : okR r = false) :
    Calls Try.prog 34 #[.int .u64 s, .int .i64 l, .int .i64 fan, .slice A r.length c] w fun e w' => e = .returned (.tuple #[.int .i64 0, .int .i64 20]) ∧ Below w.heap.size w w' := by
  obtain ⟨l0, l8, f1, f64⟩ := mayH_parts hm
  have HM := Lib.hid hm
  have HO := Lib.hid hok
  have HR := Lib.hid h
  clear hm hok h
  go_enter Try.func34, Try.ntmps34
  go_wp2_with fail
  refine (mayPart_b true l fan _ HM.out).mono ?_
  rintro e w1 ⟨rfl, rfl⟩
  go_wp2_with fail
  refine (levelSeed_any s l _ l0 l8).mono ?_
  rintro e w1 ⟨rfl, rfl⟩
  go_wp2_with fail
  refine (hashRow_no A c _ r _ HR.out hf hl HO.out).mono ?_
  rintro e w2 ⟨rfl, hb2⟩
  go_wp2_with fail
  go_ret2
  exact ⟨rfl, hb2⟩
set_option maxHeartbeats 400000 in
theorem part_ok (A : Option Addr) (c : Nat) (s l fan : Int) (r : List Va) (w : World) (hm : mayH l fan = true) (h : RowAt w A r) (hf : Fine r) (hok : okR r = true) :
    Calls Try.prog 34 #[.int .u64 s, .int .i64 l, .int .i64 fan, .slice A r.length c] w fun e w' => e = .returned (.tuple #[.int .i64 (partH s l fan r), .int .i64 0]) ∧ Below w.heap.size w w' := by
  obtain ⟨l0, l8, f1, f64⟩ := mayH_parts hm
  have HM := Lib.hid hm
  have HO := Lib.hid hok
  have HR := Lib.hid h
  have hp := partH_range s l fan r f1
  unfold partH at hp ⊢
  have hn := numH_lo (lvlH s l) (putR r)
  clear hm hok h
  go_enter Try.func34, Try.ntmps34
  go_wp2_with fail
  refine (mayPart_b true l fan _ HM.out).mono ?_
  rintro e w1 ⟨rfl, rfl⟩
  go_wp2_with fail
  refine (levelSeed_any s l _ l0 l8).mono ?_
  rintro e w1 ⟨rfl, rfl⟩
  go_wp2_with fail
  refine (hashRow_ok A c _ r _ HR.out hf HO.out).mono ?_
  rintro e w2 ⟨rfl, hb2⟩
  generalize hN : numH (lvlH s l) (putR r) = n at hp hn ⊢
  have HN := Lib.hid hN
  clear hN
  obtain ⟨hp0, hp1⟩ := hp
  have hp2 : n % fan < 64 := by omega
  go_wp2_with fail
  go_ret2
  exact ⟨by rw [HN.out]; rfl, hb2⟩
set_option maxHeartbeats 400000 in
theorem refPart_ok (A : Option Addr) (c : Nat) (s l fan : Int) (r : List Va) (w : World) (hm : mayH l fan = true) (h : RowAt w A r) (hok : okR r = true) :
    Calls Try.prog 36 #[.int .u64 s, .int .i64 l, .int .i64 fan, .slice A r.length c] w fun e w' => e = .returned (.int .i64 (partH s l fan r)) ∧ Below w.heap.size w w' := by
  obtain ⟨l0, l8, f1, f64⟩ := mayH_parts hm
  have HK := Lib.hid (refPut_any A c r w h hok)
  have HY := Lib.hid (putR_byte r hok)
  have HL := Lib.hid (putR_length r)
  have hs := sumV_le r (okR_parts hok).2
  have h32 := (okR_parts hok).1
  have hp := partH_range s l fan r f1
  unfold partH at hp ⊢
  have hn := numH_lo (lvlH s l) (putR r)
  clear hm hok h
  go_enter Try.func36, Try.ntmps36
  go_wp2_with fail
  refine HK.out.mono ?_
  rintro e w1 ⟨g, cap, rfl, hbuf, hb1⟩
  have HB := Lib.hid (hbuf.bytes HY.out)
  have HW := Lib.hid hb1
  clear hbuf hb1
  rw [← HL.out]
  have hl : (putR r).length ≤ 9223372036854775807 := by rw [HL.out]; omega
  go_wp2_with fail
  refine (refBytes_any _ _ (lvlH s l) (putR r) _ HB.out hl).mono ?_
  rintro e w2 ⟨rfl, rfl⟩
  generalize hN : numH (lvlH s l) (putR r) = n at hp hn ⊢
  have HN := Lib.hid hN
  clear hN
  obtain ⟨hp0, hp1⟩ := hp
  have hp2 : n % fan < 64 := by omega
  go_wp2_with fail
  go_ret
  exact ⟨by rw [HN.out]; rfl, HW.out⟩
/-- The same, at a length that is told by an equation. -/
theorem part_no_L (A : Option Addr) (L c : Nat) (s l fan : Int) (r : List Va) (w : World) (hL : r.length = L) (hm : mayH l fan = true) (h : RowAt w A r) (hf : Fine r) (hl : L ≤ 9223372036854775807) (hok : okR r = false) :
    Calls Try.prog 34 #[.int .u64 s, .int .i64 l, .int .i64 fan, .slice A L c] w fun e w' => e = .returned (.tuple #[.int .i64 0, .int .i64 20]) ∧ Below w.heap.size w w' := by
  subst hL; exact part_no A c s l fan r w hm h hf hl hok
theorem part_ok_L (A : Option Addr) (L c : Nat) (s l fan : Int) (r : List Va) (w : World) (hL : r.length = L) (hm : mayH l fan = true) (h : RowAt w A r) (hf : Fine r) (hok : okR r = true) :
    Calls Try.prog 34 #[.int .u64 s, .int .i64 l, .int .i64 fan, .slice A L c] w fun e w' => e = .returned (.tuple #[.int .i64 (partH s l fan r), .int .i64 0]) ∧ Below w.heap.size w w' := by
  subst hL; exact part_ok A c s l fan r w hm h hf hok
theorem refPart_ok_L (A : Option Addr) (L c : Nat) (s l fan : Int) (r : List Va) (w : World) (hL : r.length = L) (hm : mayH l fan = true) (h : RowAt w A r) (hok : okR r = true) :
    Calls Try.prog 36 #[.int .u64 s, .int .i64 l, .int .i64 fan, .slice A L c] w fun e w' => e = .returned (.int .i64 (partH s l fan r)) ∧ Below w.heap.size w w' := by
  subst hL; exact refPart_ok A c s l fan r w hm h hok
theorem refCheck_L (A : Option Addr) (L c : Nat) (r : List Va) (w : World) (hL : r.length = L) (h : RowAt w A r) (hf : Fine r) (hl : L ≤ 9223372036854775807) (b : Bool) (hok : okR r = b) :
    Calls Try.prog 19 #[.slice A L c] w fun e w' => e = .returned (.bool b) ∧ Below w.heap.size w w' := by
  subst hL hok; exact refRowCheck_any A c r w h hf hl
end Go.Proofs.Ytlobgdfmgbedgaa
