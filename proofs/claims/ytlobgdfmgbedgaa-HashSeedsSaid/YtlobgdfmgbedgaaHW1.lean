/-
  Walks of HashBytes, HashParts and HashSeeds.
-/
import Derived.Test.YtlobgdfmgbedgaaHLiv
import Derived.IntWalk
namespace Go.Proofs.Ytlobgdfmgbedgaa
open Go.RowKit Go.Shelf

theorem putR_small (r : List Va) (h : okR r = true) : (putR r).length ≤ 9223372036854775807 := by
  have := sumV_le r (okR_parts h).2
  have := (okR_parts h).1
  rw [putR_length]; omega
theorem wrap_wrap (a : Int) : IntKind.u64.wrap (IntKind.u64.wrap a + 0 * 2654435769) = IntKind.u64.wrap a := by
  rw [Int.zero_mul, Int.add_zero]
  have h := wrap_within IntKind.u64 a
  exact IntWalk.u64_in _ h
theorem part_level (s l fan : Int) (r : List Va) : partH (lvlH s l) 0 fan r = partH s l fan r := by
  unfold partH lvlH; rw [wrap_wrap]
theorem may_zero {l fan : Int} (h : mayH l fan = true) : mayH 0 fan = true := by
  obtain ⟨_, _, h1, h2⟩ := mayH_parts h
  simp [mayH, h1, h2]

set_option maxRecDepth 100000 in
set_option maxHeartbeats 4000000 in
theorem hashBytes_long (A M : Option Addr) (c cm : Nat) (s : Int) (bs : List Int) (r : List Va) (w : World) (hM : BytesAt w M bs) (h : RowAt w A r) (hf : Fine r) (hl : r.length ≤ 9223372036854775807) (hlm : bs.length ≤ 9223372036854775807) (hbig : (5000 : Int) < bs.length) :
    Calls Try.prog 6 #[.int .u64 s, .slice M bs.length cm, .slice A r.length c] w fun e w' => e = .returned (.bool true) ∧ Below w.heap.size w w' := by
  have _u : True := (fun _ _ _ _ _ _ => trivial) hM h hf hl hlm hbig
  clear _u
  clear h hM hf
  have HB := Lib.hid (Below.refl w.heap.size w)
  go_enter Try.func6, Try.ntmps6
  go_wp2_with fail
  refine (livesH_yes _).mono ?_
  rintro e w1 ⟨rfl, hb⟩
  have HB := Lib.hid (bt HB.out hb)
  clear hb
  go_wp2_with fail
  go_ret
  exact ⟨rfl, HB.out⟩

set_option maxRecDepth 100000 in
set_option maxHeartbeats 4000000 in
theorem hashBytes_wide (A M : Option Addr) (c cm : Nat) (s : Int) (bs : List Int) (r : List Va) (w : World) (hM : BytesAt w M bs) (h : RowAt w A r) (hf : Fine r) (hl : r.length ≤ 9223372036854775807) (hlm : bs.length ≤ 9223372036854775807) (hm : ¬ (5000 : Int) < bs.length) (hbig : (100 : Int) < r.length) :
    Calls Try.prog 6 #[.int .u64 s, .slice M bs.length cm, .slice A r.length c] w fun e w' => e = .returned (.bool true) ∧ Below w.heap.size w w' := by
  have _u : True := (fun _ _ _ _ _ _ _ => trivial) hM h hf hl hlm hm hbig
  clear _u
  clear h hM hf
  have HB := Lib.hid (Below.refl w.heap.size w)
  go_enter Try.func6, Try.ntmps6
  go_wp2_with fail
  refine (livesH_yes _).mono ?_
  rintro e w1 ⟨rfl, hb⟩
  have HB := Lib.hid (bt HB.out hb)
  clear hb
  go_wp2_with fail
  go_ret
  exact ⟨rfl, HB.out⟩

set_option maxRecDepth 100000 in
set_option maxHeartbeats 4000000 in
theorem hashBytes_no (A M : Option Addr) (c cm : Nat) (s : Int) (bs : List Int) (r : List Va) (w : World) (hM : BytesAt w M bs) (h : RowAt w A r) (hf : Fine r) (hl : r.length ≤ 9223372036854775807) (hlm : bs.length ≤ 9223372036854775807) (hm : ¬ (5000 : Int) < bs.length) (hr : ¬ (100 : Int) < r.length) (hok : okR r = false) :
    Calls Try.prog 6 #[.int .u64 s, .slice M bs.length cm, .slice A r.length c] w fun e w' => e = .returned (.bool true) ∧ Below w.heap.size w w' := by
  have _u : True := (fun _ _ _ _ _ _ _ _ => trivial) hM h hf hl hlm hm hr hok
  clear _u
  have HR := Lib.hid h
  have HM := Lib.hid hM
  have HB := Lib.hid (Below.refl w.heap.size w)
  clear h hM
  have HO := Lib.hid hok
  clear hok
  go_enter Try.func6, Try.ntmps6
  go_wp2_with fail
  refine (hashRow_no A c s r w HR.out hf hl HO.out).mono ?_
  rintro e w1 ⟨rfl, hb⟩
  have HR := Lib.hid (HR.out.kept hb)
  have HM := Lib.hid (HM.out.kept hb)
  have HB := Lib.hid (bt HB.out hb)
  clear hb
  go_wp2_with fail
  refine (livesH_yes _).mono ?_
  rintro e w2 ⟨rfl, hb⟩
  have HR := Lib.hid (HR.out.kept hb)
  have HM := Lib.hid (HM.out.kept hb)
  have HB := Lib.hid (bt HB.out hb)
  clear hb
  go_wp2_with fail
  refine (hashBytes_any M cm s bs _ HM.out hlm).mono ?_
  rintro e w3 ⟨rfl, hb⟩
  have HR := Lib.hid (HR.out.kept hb)
  have HM := Lib.hid (HM.out.kept hb)
  have HB := Lib.hid (bt HB.out hb)
  clear hb
  go_wp2_with fail
  refine (refBytes_any M cm s bs _ HM.out hlm).mono ?_
  rintro e w4 ⟨rfl, rfl⟩
  generalize numH s bs = y
  go_wp2_with fail
  refine (refCheck_L A r.length c r _ rfl HR.out hf hl false HO.out).mono ?_
  rintro e w5 ⟨rfl, hb⟩
  have HR := Lib.hid (HR.out.kept hb)
  have HM := Lib.hid (HM.out.kept hb)
  have HB := Lib.hid (bt HB.out hb)
  clear hb
  go_wp2_with fail
  go_ret
  exact ⟨by simp, HB.out⟩

set_option maxRecDepth 100000 in
set_option maxHeartbeats 4000000 in
theorem hashBytes_ok (A M : Option Addr) (c cm : Nat) (s : Int) (bs : List Int) (r : List Va) (w : World) (hM : BytesAt w M bs) (h : RowAt w A r) (hf : Fine r) (hl : r.length ≤ 9223372036854775807) (hlm : bs.length ≤ 9223372036854775807) (hm : ¬ (5000 : Int) < bs.length) (hr : ¬ (100 : Int) < r.length) (hok : okR r = true) :
    Calls Try.prog 6 #[.int .u64 s, .slice M bs.length cm, .slice A r.length c] w fun e w' => e = .returned (.bool true) ∧ Below w.heap.size w w' := by
  have _u : True := (fun _ _ _ _ _ _ _ _ => trivial) hM h hf hl hlm hm hr hok
  clear _u
  have HR := Lib.hid h
  have HM := Lib.hid hM
  have HB := Lib.hid (Below.refl w.heap.size w)
  clear h hM
  have HO := Lib.hid hok
  clear hok
  go_enter Try.func6, Try.ntmps6
  go_wp2_with fail
  refine (hashRow_ok A c s r w HR.out hf HO.out).mono ?_
  rintro e w1 ⟨rfl, hb⟩
  have HR := Lib.hid (HR.out.kept hb)
  have HM := Lib.hid (HM.out.kept hb)
  have HB := Lib.hid (bt HB.out hb)
  clear hb
  generalize hN : numH s (putR r) = n
  have HN := Lib.hid hN
  clear hN
  go_wp2_with fail
  refine (livesH_yes _).mono ?_
  rintro e w2 ⟨rfl, hb⟩
  have HR := Lib.hid (HR.out.kept hb)
  have HM := Lib.hid (HM.out.kept hb)
  have HB := Lib.hid (bt HB.out hb)
  clear hb
  go_wp2_with fail
  refine (hashBytes_any M cm s bs _ HM.out hlm).mono ?_
  rintro e w3 ⟨rfl, hb⟩
  have HR := Lib.hid (HR.out.kept hb)
  have HM := Lib.hid (HM.out.kept hb)
  have HB := Lib.hid (bt HB.out hb)
  clear hb
  go_wp2_with fail
  refine (refBytes_any M cm s bs _ HM.out hlm).mono ?_
  rintro e w4 ⟨rfl, rfl⟩
  generalize numH s bs = y
  go_wp2_with fail
  refine (refCheck_L A r.length c r _ rfl HR.out hf hl true HO.out).mono ?_
  rintro e w5 ⟨rfl, hb⟩
  have HR := Lib.hid (HR.out.kept hb)
  have HM := Lib.hid (HM.out.kept hb)
  have HB := Lib.hid (bt HB.out hb)
  clear hb
  go_wp2_with fail
  refine (refPut_any A c r _ HR.out HO.out).mono ?_
  rintro e w9 ⟨g2, cap2, rfl, hbuf, hb⟩
  have HF := Lib.hid (hbuf.bytes (putR_byte r HO.out))
  have HB := Lib.hid (bt HB.out hb)
  clear hb hbuf
  rw [← putR_length r]
  go_wp2_with fail
  refine (refBytes_any _ _ s (putR r) _ HF.out (putR_small r HO.out)).mono ?_
  rw [HN.out]
  rintro e w6 ⟨rfl, rfl⟩
  go_wp2_with fail
  go_ret
  exact ⟨by simp, HB.out⟩

theorem hashBytes_walk (A M : Option Addr) (c cm : Nat) (s : Int) (bs : List Int) (r : List Va) (w : World) (hM : BytesAt w M bs) (h : RowAt w A r) (hf : Fine r) (hl : r.length ≤ 9223372036854775807) (hlm : bs.length ≤ 9223372036854775807) :
    Calls Try.prog 6 #[.int .u64 s, .slice M bs.length cm, .slice A r.length c] w fun e w' => e = .returned (.bool true) ∧ Below w.heap.size w w' := by
  by_cases h1 : (5000 : Int) < bs.length
  · exact hashBytes_long A M c cm s bs r w hM h hf hl hlm h1
  · by_cases h2 : (100 : Int) < r.length
    · exact hashBytes_wide A M c cm s bs r w hM h hf hl hlm h1 h2
    · cases hok : okR r
      · exact hashBytes_no A M c cm s bs r w hM h hf hl hlm h1 h2 hok
      · exact hashBytes_ok A M c cm s bs r w hM h hf hl hlm h1 h2 hok

set_option maxRecDepth 100000 in
set_option maxHeartbeats 4000000 in
theorem hashParts_wide (A : Option Addr) (c : Nat) (s l fan : Int) (r : List Va) (w : World) (h : RowAt w A r) (hf : Fine r) (hl : r.length ≤ 9223372036854775807) (hbig : (100 : Int) < r.length) :
    Calls Try.prog 7 #[.int .u64 s, .int .i64 l, .int .i64 fan, .slice A r.length c] w fun e w' => e = .returned (.bool true) ∧ Below w.heap.size w w' := by
  have _u : True := (fun _ _ _ _ => trivial) h hf hl hbig
  clear _u
  clear h hf
  have HB := Lib.hid (Below.refl w.heap.size w)
  go_enter Try.func7, Try.ntmps7
  go_wp2_with fail
  refine (livesH_yes _).mono ?_
  rintro e w1 ⟨rfl, hb⟩
  have HB := Lib.hid (bt HB.out hb)
  clear hb
  go_wp2_with fail
  go_ret
  exact ⟨rfl, HB.out⟩

set_option maxRecDepth 100000 in
set_option maxHeartbeats 4000000 in
theorem hashParts_may (A : Option Addr) (c : Nat) (s l fan : Int) (r : List Va) (w : World) (h : RowAt w A r) (hf : Fine r) (hl : r.length ≤ 9223372036854775807) (hr : ¬ (100 : Int) < r.length) (hm : mayH l fan = false) :
    Calls Try.prog 7 #[.int .u64 s, .int .i64 l, .int .i64 fan, .slice A r.length c] w fun e w' => e = .returned (.bool true) ∧ Below w.heap.size w w' := by
  have _u : True := (fun _ _ _ _ _ => trivial) h hf hl hr hm
  clear _u
  have HR := Lib.hid h
  have HB := Lib.hid (Below.refl w.heap.size w)
  clear h
  have HM := Lib.hid hm
  clear hm
  go_enter Try.func7, Try.ntmps7
  go_wp2_with fail
  refine (part_may A c s l fan r w HM.out).mono ?_
  rintro e w1 ⟨rfl, rfl⟩
  go_wp2_with fail
  refine (livesH_yes _).mono ?_
  rintro e w2 ⟨rfl, hb⟩
  have HR := Lib.hid (HR.out.kept hb)
  have HB := Lib.hid (bt HB.out hb)
  clear hb
  go_wp2_with fail
  refine (refMay_b false l fan _ HM.out).mono ?_
  rintro e w3 ⟨rfl, rfl⟩
  go_wp2_with fail
  go_ret
  exact ⟨by simp, HB.out⟩

set_option maxRecDepth 100000 in
set_option maxHeartbeats 4000000 in
theorem hashParts_no (A : Option Addr) (c : Nat) (s l fan : Int) (r : List Va) (w : World) (h : RowAt w A r) (hf : Fine r) (hl : r.length ≤ 9223372036854775807) (hr : ¬ (100 : Int) < r.length) (hm : mayH l fan = true) (hok : okR r = false) :
    Calls Try.prog 7 #[.int .u64 s, .int .i64 l, .int .i64 fan, .slice A r.length c] w fun e w' => e = .returned (.bool true) ∧ Below w.heap.size w w' := by
  have _u : True := (fun _ _ _ _ _ _ => trivial) h hf hl hr hm hok
  clear _u
  have HR := Lib.hid h
  have HB := Lib.hid (Below.refl w.heap.size w)
  clear h
  have HM := Lib.hid hm
  have HO := Lib.hid hok
  clear hm hok
  go_enter Try.func7, Try.ntmps7
  go_wp2_with fail
  refine (part_no A c s l fan r w HM.out HR.out hf hl HO.out).mono ?_
  rintro e w1 ⟨rfl, hb⟩
  have HR := Lib.hid (HR.out.kept hb)
  have HB := Lib.hid (bt HB.out hb)
  clear hb
  go_wp2_with fail
  refine (livesH_yes _).mono ?_
  rintro e w2 ⟨rfl, hb⟩
  have HR := Lib.hid (HR.out.kept hb)
  have HB := Lib.hid (bt HB.out hb)
  clear hb
  go_wp2_with fail
  refine (refMay_b true l fan _ HM.out).mono ?_
  rintro e w3 ⟨rfl, rfl⟩
  go_wp2_with fail
  refine (refCheck_L A r.length c r _ rfl HR.out hf hl false HO.out).mono ?_
  rintro e w4 ⟨rfl, hb⟩
  have HR := Lib.hid (HR.out.kept hb)
  have HB := Lib.hid (bt HB.out hb)
  clear hb
  go_wp2_with fail
  go_ret
  exact ⟨by simp, HB.out⟩

set_option maxRecDepth 100000 in
set_option maxHeartbeats 4000000 in
theorem hashParts_ok (A : Option Addr) (c : Nat) (s l fan : Int) (r : List Va) (w : World) (h : RowAt w A r) (hf : Fine r) (hl : r.length ≤ 9223372036854775807) (hr : ¬ (100 : Int) < r.length) (hm : mayH l fan = true) (hok : okR r = true) :
    Calls Try.prog 7 #[.int .u64 s, .int .i64 l, .int .i64 fan, .slice A r.length c] w fun e w' => e = .returned (.bool true) ∧ Below w.heap.size w w' := by
  have _u : True := (fun _ _ _ _ _ _ => trivial) h hf hl hr hm hok
  clear _u
  have HR := Lib.hid h
  have HB := Lib.hid (Below.refl w.heap.size w)
  clear h
  obtain ⟨l0, l8, f1, f64⟩ := mayH_parts hm
  have HM := Lib.hid hm
  have HO := Lib.hid hok
  clear hm hok
  obtain ⟨hp0, hp1⟩ := partH_range s l fan r f1
  go_enter Try.func7, Try.ntmps7
  go_wp2_with fail
  refine (part_ok A c s l fan r w HM.out HR.out hf HO.out).mono ?_
  rintro e w1 ⟨rfl, hb⟩
  have HR := Lib.hid (HR.out.kept hb)
  have HB := Lib.hid (bt HB.out hb)
  clear hb
  generalize hN : partH s l fan r = n at hp0 hp1 ⊢
  have HN := Lib.hid hN
  clear hN
  go_wp2_with fail
  refine (livesH_yes _).mono ?_
  rintro e w2 ⟨rfl, hb⟩
  have HR := Lib.hid (HR.out.kept hb)
  have HB := Lib.hid (bt HB.out hb)
  clear hb
  go_wp2_with fail
  refine (refMay_b true l fan _ HM.out).mono ?_
  rintro e w3 ⟨rfl, rfl⟩
  go_wp2_with fail
  refine (refCheck_L A r.length c r _ rfl HR.out hf hl true HO.out).mono ?_
  rintro e w4 ⟨rfl, hb⟩
  have HR := Lib.hid (HR.out.kept hb)
  have HB := Lib.hid (bt HB.out hb)
  clear hb
  go_wp2_with fail
  refine (refPart_ok A c s l fan r _ HM.out HR.out HO.out).mono ?_
  rw [HN.out]
  rintro e w5 ⟨rfl, hb⟩
  have HR := Lib.hid (HR.out.kept hb)
  have HB := Lib.hid (bt HB.out hb)
  clear hb
  go_wp2_with fail
  go_ret
  exact ⟨by simp, HB.out⟩

theorem hashParts_walk (A : Option Addr) (c : Nat) (s l fan : Int) (r : List Va) (w : World) (h : RowAt w A r) (hf : Fine r) (hl : r.length ≤ 9223372036854775807) :
    Calls Try.prog 7 #[.int .u64 s, .int .i64 l, .int .i64 fan, .slice A r.length c] w fun e w' => e = .returned (.bool true) ∧ Below w.heap.size w w' := by
  by_cases h1 : (100 : Int) < r.length
  · exact hashParts_wide A c s l fan r w h hf hl h1
  · cases hm : mayH l fan
    · exact hashParts_may A c s l fan r w h hf hl h1 hm
    · cases hok : okR r
      · exact hashParts_no A c s l fan r w h hf hl h1 hm hok
      · exact hashParts_ok A c s l fan r w h hf hl h1 hm hok

set_option maxRecDepth 100000 in
set_option maxHeartbeats 4000000 in
theorem hashSeeds_long (A M : Option Addr) (c cm : Nat) (s l fan : Int) (r : List Va) (bs : List Int) (w : World) (h : RowAt w A r) (hf : Fine r) (hM : BytesAt w M bs) (hl : r.length ≤ 9223372036854775807) (hlm : bs.length ≤ 9223372036854775807) (hbig : (1000 : Int) < bs.length) :
    Calls Try.prog 10 #[.int .u64 s, .int .i64 l, .int .i64 fan, .slice A r.length c, .slice M bs.length cm] w fun e w' => e = .returned (.bool true) ∧ Below w.heap.size w w' := by
  have _u : True := (fun _ _ _ _ _ _ => trivial) h hf hM hl hlm hbig
  clear _u
  clear h hM hf
  have HB := Lib.hid (Below.refl w.heap.size w)
  go_enter Try.func10, Try.ntmps10
  go_wp2_with fail
  refine (livesH_yes _).mono ?_
  rintro e w1 ⟨rfl, hb⟩
  have HB := Lib.hid (bt HB.out hb)
  clear hb
  go_wp2_with fail
  go_ret
  exact ⟨rfl, HB.out⟩

set_option maxRecDepth 100000 in
set_option maxHeartbeats 4000000 in
theorem hashSeeds_wide (A M : Option Addr) (c cm : Nat) (s l fan : Int) (r : List Va) (bs : List Int) (w : World) (h : RowAt w A r) (hf : Fine r) (hM : BytesAt w M bs) (hl : r.length ≤ 9223372036854775807) (hlm : bs.length ≤ 9223372036854775807) (hm : ¬ (1000 : Int) < bs.length) (hbig : (50 : Int) < r.length) :
    Calls Try.prog 10 #[.int .u64 s, .int .i64 l, .int .i64 fan, .slice A r.length c, .slice M bs.length cm] w fun e w' => e = .returned (.bool true) ∧ Below w.heap.size w w' := by
  have _u : True := (fun _ _ _ _ _ _ _ => trivial) h hf hM hl hlm hm hbig
  clear _u
  clear h hM hf
  have HB := Lib.hid (Below.refl w.heap.size w)
  go_enter Try.func10, Try.ntmps10
  go_wp2_with fail
  refine (livesH_yes _).mono ?_
  rintro e w1 ⟨rfl, hb⟩
  have HB := Lib.hid (bt HB.out hb)
  clear hb
  go_wp2_with fail
  go_ret
  exact ⟨rfl, HB.out⟩

set_option maxRecDepth 100000 in
set_option maxHeartbeats 4000000 in
theorem hashSeeds_may (A M : Option Addr) (c cm : Nat) (s l fan : Int) (r : List Va) (bs : List Int) (w : World) (h : RowAt w A r) (hf : Fine r) (hM : BytesAt w M bs) (hl : r.length ≤ 9223372036854775807) (hlm : bs.length ≤ 9223372036854775807) (hm : ¬ (1000 : Int) < bs.length) (hr : ¬ (50 : Int) < r.length) (hy : mayH l fan = false) :
    Calls Try.prog 10 #[.int .u64 s, .int .i64 l, .int .i64 fan, .slice A r.length c, .slice M bs.length cm] w fun e w' => e = .returned (.bool true) ∧ Below w.heap.size w w' := by
  have _u : True := (fun _ _ _ _ _ _ _ _ => trivial) h hf hM hl hlm hm hr hy
  clear _u
  clear h hM hf
  have HB := Lib.hid (Below.refl w.heap.size w)
  have HY := Lib.hid hy
  clear hy
  go_enter Try.func10, Try.ntmps10
  go_wp2_with fail
  refine (refMay_b false l fan _ HY.out).mono ?_
  rintro e w1 ⟨rfl, rfl⟩
  go_wp2_with fail
  refine (livesH_yes _).mono ?_
  rintro e w2 ⟨rfl, hb⟩
  have HB := Lib.hid (bt HB.out hb)
  clear hb
  go_wp2_with fail
  go_ret
  exact ⟨rfl, HB.out⟩

set_option maxRecDepth 100000 in
set_option maxHeartbeats 4000000 in
theorem hashSeeds_no (A M : Option Addr) (c cm : Nat) (s l fan : Int) (r : List Va) (bs : List Int) (w : World) (h : RowAt w A r) (hf : Fine r) (hM : BytesAt w M bs) (hl : r.length ≤ 9223372036854775807) (hlm : bs.length ≤ 9223372036854775807) (hm : ¬ (1000 : Int) < bs.length) (hr : ¬ (50 : Int) < r.length) (hy : mayH l fan = true) (hok : okR r = false) :
    Calls Try.prog 10 #[.int .u64 s, .int .i64 l, .int .i64 fan, .slice A r.length c, .slice M bs.length cm] w fun e w' => e = .returned (.bool true) ∧ Below w.heap.size w w' := by
  have _u : True := (fun _ _ _ _ _ _ _ _ _ => trivial) h hf hM hl hlm hm hr hy hok
  clear _u
  have HR := Lib.hid h
  clear h hM
  have HB := Lib.hid (Below.refl w.heap.size w)
  have HY := Lib.hid hy
  have HO := Lib.hid hok
  clear hy hok
  go_enter Try.func10, Try.ntmps10
  go_wp2_with fail
  refine (refMay_b true l fan _ HY.out).mono ?_
  rintro e w1 ⟨rfl, rfl⟩
  go_wp2_with fail
  refine (refCheck_L A r.length c r _ rfl HR.out hf hl false HO.out).mono ?_
  rintro e w2 ⟨rfl, hb⟩
  have HB := Lib.hid (bt HB.out hb)
  clear hb
  go_wp2_with fail
  refine (livesH_yes _).mono ?_
  rintro e w3 ⟨rfl, hb⟩
  have HB := Lib.hid (bt HB.out hb)
  clear hb
  go_wp2_with fail
  go_ret
  exact ⟨rfl, HB.out⟩

set_option maxRecDepth 100000 in
set_option maxHeartbeats 4000000 in
theorem hashSeeds_ok (A M : Option Addr) (c cm : Nat) (s l fan : Int) (r : List Va) (bs : List Int) (w : World) (h : RowAt w A r) (hf : Fine r) (hM : BytesAt w M bs) (hl : r.length ≤ 9223372036854775807) (hlm : bs.length ≤ 9223372036854775807) (hm : ¬ (1000 : Int) < bs.length) (hr : ¬ (50 : Int) < r.length) (hy : mayH l fan = true) (hok : okR r = true) :
    Calls Try.prog 10 #[.int .u64 s, .int .i64 l, .int .i64 fan, .slice A r.length c, .slice M bs.length cm] w fun e w' => e = .returned (.bool true) ∧ Below w.heap.size w w' := by
  have _u : True := (fun _ _ _ _ _ _ _ _ _ => trivial) h hf hM hl hlm hm hr hy hok
  clear _u
  have HR := Lib.hid h
  have HM := Lib.hid hM
  have HB := Lib.hid (Below.refl w.heap.size w)
  obtain ⟨l0, l8, f1, f64⟩ := mayH_parts hy
  have HY := Lib.hid hy
  have HO := Lib.hid hok
  have HE := Lib.hid (part_level s l fan r)
  have HZ := Lib.hid (may_zero hy)
  clear h hM hy hok
  go_enter Try.func10, Try.ntmps10
  go_wp2_with fail
  refine (refMay_b true l fan _ HY.out).mono ?_
  rintro e w1 ⟨rfl, rfl⟩
  go_wp2_with fail
  refine (refCheck_L A r.length c r _ rfl HR.out hf hl true HO.out).mono ?_
  rintro e w2 ⟨rfl, hb⟩
  have HR := Lib.hid (HR.out.kept hb)
  have HM := Lib.hid (HM.out.kept hb)
  have HB := Lib.hid (bt HB.out hb)
  clear hb
  go_wp2_with fail
  refine (part_ok A c s l fan r _ HY.out HR.out hf HO.out).mono ?_
  rintro e w3 ⟨rfl, hb⟩
  have HR := Lib.hid (HR.out.kept hb)
  have HM := Lib.hid (HM.out.kept hb)
  have HB := Lib.hid (bt HB.out hb)
  clear hb
  generalize hN : partH s l fan r = n at HE ⊢
  have HN := Lib.hid hN
  clear hN
  go_wp2_with fail
  refine (part_ok A c (lvlH s l) 0 fan r _ HZ.out HR.out hf HO.out).mono ?_
  rw [HE.out]
  rintro e w4 ⟨rfl, hb⟩
  have HR := Lib.hid (HR.out.kept hb)
  have HM := Lib.hid (HM.out.kept hb)
  have HB := Lib.hid (bt HB.out hb)
  clear hb
  go_wp2_with fail
  refine (hashRow_ok A c s r _ HR.out hf HO.out).mono ?_
  rintro e w5 ⟨rfl, hb⟩
  have HR := Lib.hid (HR.out.kept hb)
  have HM := Lib.hid (HM.out.kept hb)
  have HB := Lib.hid (bt HB.out hb)
  clear hb
  generalize hK : numH s (putR r) = k
  have HK := Lib.hid hK
  clear hK
  go_wp2_with fail
  refine (livesH_yes _).mono ?_
  rintro e w6 ⟨rfl, hb⟩
  have HR := Lib.hid (HR.out.kept hb)
  have HM := Lib.hid (HM.out.kept hb)
  have HB := Lib.hid (bt HB.out hb)
  clear hb
  go_wp2_with fail
  refine (refPut_any A c r _ HR.out HO.out).mono ?_
  rintro e w9 ⟨g2, cap2, rfl, hbuf, hb⟩
  have HF := Lib.hid (hbuf.bytes (putR_byte r HO.out))
  have HM := Lib.hid (HM.out.kept hb)
  have HB := Lib.hid (bt HB.out hb)
  clear hb hbuf
  rw [← putR_length r]
  go_wp2_with fail
  refine (hashBytes_any _ _ s (putR r) _ HF.out (putR_small r HO.out)).mono ?_
  rw [HK.out]
  rintro e w7 ⟨rfl, hb⟩
  have HM := Lib.hid (HM.out.kept hb)
  have HB := Lib.hid (bt HB.out hb)
  clear hb
  go_wp2_with fail
  refine (hashBytes_any M cm s bs _ HM.out hlm).mono ?_
  rintro e w8 ⟨rfl, hb⟩
  have HM := Lib.hid (HM.out.kept hb)
  have HB := Lib.hid (bt HB.out hb)
  clear hb
  go_wp2_with fail
  refine (refBytes_any M cm s bs _ HM.out hlm).mono ?_
  rintro e w9 ⟨rfl, rfl⟩
  generalize numH s bs = y
  go_wp2_with fail
  go_ret
  exact ⟨by simp, HB.out⟩

theorem hashSeeds_walk (A M : Option Addr) (c cm : Nat) (s l fan : Int) (r : List Va) (bs : List Int) (w : World) (h : RowAt w A r) (hf : Fine r) (hM : BytesAt w M bs) (hl : r.length ≤ 9223372036854775807) (hlm : bs.length ≤ 9223372036854775807) :
    Calls Try.prog 10 #[.int .u64 s, .int .i64 l, .int .i64 fan, .slice A r.length c, .slice M bs.length cm] w fun e w' => e = .returned (.bool true) ∧ Below w.heap.size w w' := by
  by_cases h1 : (1000 : Int) < bs.length
  · exact hashSeeds_long A M c cm s l fan r bs w h hf hM hl hlm h1
  · by_cases h2 : (50 : Int) < r.length
    · exact hashSeeds_wide A M c cm s l fan r bs w h hf hM hl hlm h1 h2
    · cases hy : mayH l fan
      · exact hashSeeds_may A M c cm s l fan r bs w h hf hM hl hlm h1 h2 hy
      · cases hok : okR r
        · exact hashSeeds_no A M c cm s l fan r bs w h hf hM hl hlm h1 h2 hy hok
        · exact hashSeeds_ok A M c cm s l fan r bs w h hf hM hl hlm h1 h2 hy hok

end Go.Proofs.Ytlobgdfmgbedgaa
