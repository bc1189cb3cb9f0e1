/-
  Contract of row.getValue.
-/
import Derived.Test.YtdjhoiamongdaaaRCut
import Derived.Test.YtdjhoiamongdaaaRRead
namespace Go.Proofs.Ytdjhoiamongdaaa
open Go.RowKit Go.Shelf

theorem check_b (b : Bool) (v : Va) (w : World) (hs : v.s.size ≤ 9223372036854775807) (h : v.ok = b) :
    Calls Try.prog 117 #[VV v.k v.n v.s] w fun e w' => e = .returned (.int .i64 (if b then 0 else 10)) ∧ Below w.heap.size w w' := by
  have := check_any v.k v.n v.s w hs
  rw [show okV v.k v.n v.s = b from h] at this
  exact this

set_option maxHeartbeats 1000000 in
theorem getValue_cutno (A : Option Addr) (L c : Nat) (n0 : Int) (w : World)
    (hcut : ∀ W, Below w.heap.size w W → Calls Try.prog 115 #[.slice A L c] W fun e w' => e = .returned (.tuple #[.int .i64 n0, .bool false]) ∧ W = w') :
    Calls Try.prog 99 #[.slice A L c] w fun e w' => e = .returned (.tuple #[VV 0 0 ⟨#[]⟩, .int .i64 0, .bool false]) ∧ Below w.heap.size w w' := by
  have HC := Lib.hid hcut
  clear hcut
  go_enter Try.func99, Try.ntmps99
  go_wp2_with fail
  refine (HC.out _ (ba _ _)).mono ?_
  rintro e w1 ⟨rfl, rfl⟩
  go_wp2_with fail
  refine bodyPost_ret (v := .tuple #[VV 0 0 ⟨#[]⟩, .int .i64 0, .bool false]) (by simp [results, Try.results99, go_sem]) rfl ⟨rfl, ?_⟩
  exact ba _ _

set_option maxHeartbeats 1000000 in
theorem getValue_cut (b off L c n : Nat) (v : Va) (ok : Bool) (w : World) (hn : 0 < n) (hnL : n ≤ L) (hc : L ≤ c) (hs : v.s.size ≤ 9223372036854775807)
    (hcut : ∀ W, Below w.heap.size w W → Calls Try.prog 115 #[.slice (some ⟨b, off, none⟩) L c] W fun e w' => e = .returned (.tuple #[.int .i64 n, .bool true]) ∧ W = w')
    (hread : ∀ W, Below w.heap.size w W → Calls Try.prog 116 #[.slice (some ⟨b, off, none⟩) n c] W fun e w' => e = .returned (VV v.k v.n v.s) ∧ Below W.heap.size W w') (hok : v.ok = ok) :
    Calls Try.prog 99 #[.slice (some ⟨b, off, none⟩) L c] w fun e w' => e = .returned (.tuple (if ok then #[VV v.k v.n v.s, .int .i64 n, .bool true] else #[VV 0 0 ⟨#[]⟩, .int .i64 0, .bool false])) ∧ Below w.heap.size w w' := by
  have HC := Lib.hid hcut
  have HR := Lib.hid hread
  have HO := Lib.hid hok
  have hc0 : c ≠ 0 := by omega
  have hnc : (n : Int) ≤ c := by omega
  clear hcut hread hok
  go_enter Try.func99, Try.ntmps99
  go_wp2_with fail
  refine (HC.out _ (ba _ _)).mono ?_
  rintro e w1 ⟨rfl, rfl⟩
  go_wp2_with fail
  refine (HR.out _ (ba _ _)).mono ?_
  rintro e w1 ⟨rfl, hb1⟩
  obtain ⟨d0, d1, d2, f0, f1, f2⟩ := boxR hb1
  have hlt := hb1.size
  have HB := Lib.hid (bt (ba w _) hb1)
  clear hb1
  rw [World.size_alloc] at hlt
  go_wp2_with fail
  refine (check_b ok v _ hs HO.out).mono ?_
  rintro e w2 ⟨rfl, hb2⟩
  obtain ⟨g0, g1, g2, _, _, _⟩ := boxR hb2
  have hlt2 : w.heap.size < (w1.alloc (.cells #[.int .i64 v.k, .int .i64 v.n, .string v.s] 94)).heap.size := by rw [World.size_alloc]; omega
  have hx0 : w.heap.size < w1.heap.size := by omega
  have d0 := (hb2.cell (p := ⟨w.heap.size, 0, none⟩) hlt2).trans ((World.cell?_alloc_lt _ _ _ hx0).trans d0)
  have d1 := (hb2.cell (p := ⟨w.heap.size, 1, none⟩) hlt2).trans ((World.cell?_alloc_lt _ _ _ hx0).trans d1)
  have d2 := (hb2.cell (p := ⟨w.heap.size, 2, none⟩) hlt2).trans ((World.cell?_alloc_lt _ _ _ hx0).trans d2)
  have f0 := (hb2.frozen (p := ⟨w.heap.size, 0, none⟩) hlt2).trans ((World.frozen?_alloc_old _ _ _ (Nat.ne_of_lt hx0)).trans f0)
  have f1 := (hb2.frozen (p := ⟨w.heap.size, 1, none⟩) hlt2).trans ((World.frozen?_alloc_old _ _ _ (Nat.ne_of_lt hx0)).trans f1)
  have f2 := (hb2.frozen (p := ⟨w.heap.size, 2, none⟩) hlt2).trans ((World.frozen?_alloc_old _ _ _ (Nat.ne_of_lt hx0)).trans f2)
  have HB2 := Lib.hid (bt (bt HB.out (ba _ _)) hb2)
  clear hb2
  cases ok
  · go_wp2_with fail
    refine bodyPost_ret (v := .tuple #[VV 0 0 ⟨#[]⟩, .int .i64 0, .bool false]) (by simp [results, Try.results99, go_sem, d0, d1, d2]) rfl ⟨rfl, ?_⟩
    exact ((HB2.out.setCell (Nat.le_refl _) _).setCell (Nat.le_refl _) _).setCell (Nat.le_refl _) _
  · go_wp2_with fail
    refine bodyPost_ret (v := .tuple #[VV v.k v.n v.s, .int .i64 n, .bool true]) (by simp [results, Try.results99, go_sem, d0, d1, d2]) rfl ⟨rfl, ?_⟩
    exact ((HB2.out.setCell (Nat.le_refl _) _).setCell (Nat.le_refl _) _).setCell (Nat.le_refl _) _

/-- The value that bytes begin with, if it may be. -/
def keepOk (v : Va) (n : Nat) : Option (Va × Nat) := if v.ok then some (v, n) else none
def getV : List Int → Option (Va × Nat)
  | [] => none
  | k :: t =>
    if k = 0 then some (nullA, 1)
    else if k = 1 then (match t with | [] => none | x :: _ => keepOk ⟨1, x, ⟨#[]⟩⟩ 2)
    else if k = 2 then (if t.length < 7 then none else keepOk ⟨2, num (t.take 7) - 9007199254740992, ⟨#[]⟩⟩ 8)
    else if k = 3 then (match t with | [] => none | x :: u => if u.length < x.toNat then none else keepOk ⟨3, 0, strOfNums (u.take x.toNat)⟩ (2 + x.toNat))
    else none
def gotV : Option (Va × Nat) → Array Value
  | some (v, n) => #[VV v.k v.n v.s, .int .i64 n, .bool true]
  | none => #[VV 0 0 ⟨#[]⟩, .int .i64 0, .bool false]
theorem got_keep (v : Va) (n : Nat) : gotV (keepOk v n) = if v.ok then #[VV v.k v.n v.s, .int .i64 n, .bool true] else #[VV 0 0 ⟨#[]⟩, .int .i64 0, .bool false] := by
  unfold keepOk; cases v.ok <;> rfl
theorem empty_small : (⟨#[]⟩ : ByteArray).size ≤ 9223372036854775807 := by decide
theorem cellAt {w w' : World} (hb : Below w.heap.size w w') {p : Addr} {v : Value} (h : w.cell? p = some v) : w'.cell? p = some v := cell_kept hb h

set_option maxRecDepth 10000 in
theorem getValue_any (A : Option Addr) (L c : Nat) (bs : List Int) (w : World) (h : BytesAt w A bs) (hL : bs.length = L) (hc : L ≤ c) (h63 : L ≤ 9223372036854775807) :
    Calls Try.prog 99 #[.slice A L c] w fun e w' => e = .returned (.tuple (gotV (getV bs))) ∧ Below w.heap.size w w' := by
  cases bs with
  | nil => subst hL; exact getValue_cutno A 0 c 0 w (fun W _ => cut_nil A c W)
  | cons k t =>
    obtain ⟨b, off, rfl, hb, c0, k0, k1⟩ := at_nil h rfl
    have hL' : t.length + 1 = L := by simpa using hL
    by_cases e0 : k = 0
    · subst e0
      have := getValue_cut b off L c 1 nullA true w (by omega) (by omega) hc empty_small (fun W hW => cut_b true b off L c 0 W (by omega) (cellAt hW c0) 1 (.inl ⟨rfl, rfl⟩) (by simp; omega)) (fun W hW => read_null _ 1 c _ W ((h.kept hW).take 1) rfl (by simp)) (by decide +kernel)
      simpa [getV, gotV] using this
    by_cases e1 : k = 1
    · subst e1
      cases t with
      | nil =>
        obtain rfl : L = 1 := by simpa using hL'.symm
        exact getValue_cutno _ 1 c 2 w (fun W hW => cut_b false b off 1 c 1 W (by omega) (cellAt hW c0) 2 (.inr (.inl ⟨rfl, rfl⟩)) (by decide))
      | cons x u =>
        simp only [List.length_cons] at hL'
        have := getValue_cut b off L c 2 ⟨1, x, ⟨#[]⟩⟩ _ w (by omega) (by omega) hc empty_small (fun W hW => cut_b true b off L c 1 W (by omega) (cellAt hW c0) 2 (.inr (.inl ⟨rfl, rfl⟩)) (by simp; omega)) (fun W hW => read_bool _ 2 c _ x W ((h.kept hW).take 2) rfl rfl (by simp)) rfl
        have e : getV (1 :: x :: u) = keepOk ⟨1, x, ⟨#[]⟩⟩ 2 := by simp [getV]
        rw [e, got_keep]
        exact this
    by_cases e2 : k = 2
    · subst e2
      by_cases h7 : t.length < 7
      · have e : getV (2 :: t) = none := by simp [getV, h7]
        rw [e]
        exact getValue_cutno _ L c 8 w (fun W hW => cut_b false b off L c 2 W (by omega) (cellAt hW c0) 8 (.inr (.inr ⟨rfl, rfl⟩)) (by simp; omega))
      · have := getValue_cut b off L c 8 ⟨2, num (t.take 7) - 9007199254740992, ⟨#[]⟩⟩ _ w (by omega) (by omega) hc empty_small (fun W hW => cut_b true b off L c 2 W (by omega) (cellAt hW c0) 8 (.inr (.inr ⟨rfl, rfl⟩)) (by simp; omega)) (fun W hW => read_int _ c ((2 :: t).take 8) W ((h.kept hW).take 8) rfl (by simp; omega) (by omega)) rfl
        have e : getV (2 :: t) = keepOk ⟨2, num (t.take 7) - 9007199254740992, ⟨#[]⟩⟩ 8 := by simp [getV, h7]
        rw [e, got_keep]
        exact this
    by_cases e3 : k = 3
    · subst e3
      cases t with
      | nil =>
        obtain rfl : L = 1 := by simpa using hL'.symm
        exact getValue_cutno _ 1 c 0 w (fun W hW => cut_short b off c W (cellAt hW c0))
      | cons x u =>
        simp only [List.length_cons] at hL'
        obtain ⟨b', off', e', _, c1, x0, x1⟩ := h.at (i := 1) (x := x) rfl
        cases e'
        obtain ⟨X, rfl⟩ := Int.eq_ofNat_of_zero_le x0
        by_cases hu : u.length < X
        · have e : getV (3 :: (X : Int) :: u) = none := by simp [getV, hu]
          rw [e]
          exact getValue_cutno _ L c (2 + X) w (fun W hW => cut_text false b off L c X W (by omega) (cellAt hW c0) (cellAt hW c1) (by omega) (by simp; omega))
        · have hsz : (strOfNums (u.take X)).size ≤ 9223372036854775807 := by rw [strOfNums_size]; simp; omega
          have := getValue_cut b off L c (2 + X) ⟨3, 0, strOfNums (u.take X)⟩ _ w (by omega) (by omega) hc hsz (fun W hW => by have := cut_text true b off L c X W (by omega) (cellAt hW c0) (cellAt hW c1) (by omega) (by simp; omega); simpa using this) (fun W hW => by
            have := read_text _ (2 + X) c ((3 :: (X : Int) :: u).take (2 + X)) W ((h.kept hW).take (2 + X)) (by rw [Nat.add_comm]; rfl) (by omega) (by simp; omega) (by omega)
            rw [show ((3 :: (X : Int) :: u).take (2 + X)).drop 2 = u.take X by rw [Nat.add_comm]; rfl] at this
            exact this) rfl
          have e : getV (3 :: (X : Int) :: u) = keepOk ⟨3, 0, strOfNums (u.take X)⟩ (2 + X) := by simp [getV, hu]
          rw [e, got_keep]
          exact this
    · have e : getV (k :: t) = none := by simp [getV, e0, e1, e2, e3]
      rw [e]
      exact getValue_cutno _ L c 0 w (fun W hW => cut_odd b off L c k W (by omega) (cellAt hW c0) (by omega) k1)

end Go.Proofs.Ytdjhoiamongdaaa
