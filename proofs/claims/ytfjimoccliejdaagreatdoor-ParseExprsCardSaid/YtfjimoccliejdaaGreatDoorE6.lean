/-
  Same, of two expressions; the document's Same.
-/
import Derived.Test.YtfjimoccliejdaaGreatDoorE5
import Derived.Deep.RegionHeld3
import Derived.BigRegion
section
namespace Go.Proofs.YtfjimoccliejdaaGreatDoor
open Go.RowKit Go.Shelf

theorem pick4_any (h : Hd) (lk : List Ex) (A : Option Addr) (cap : Nat) (w : World) (hX : XsAt w.heap.size w lk A) (hcap : lk.length ≤ cap) (hsm : AllSm (.mk h lk)) (hc : cnt (.mk h lk) ≤ 999999) (hT : Tabs w) :
  Calls Tryz.prog 153 #[XV h A lk.length cap, .func (.func 154) #[] #[]] w (ListBack w (if okX (.mk h lk) = true then kndX 4 (.mk h lk) else [])) :=
 pickn_any 154 4 is4_any (by intro _ _; go_simp) h lk A cap w hX hcap hsm hc hT
end Go.Proofs.YtfjimoccliejdaaGreatDoor
end
section
namespace Go.Proofs.YtfjimoccliejdaaGreatDoor
open Go.RowKit Go.Shelf

abbrev tens : ByteArray := ⟨#[48, 49, 50, 51, 52, 53, 54, 55, 56, 57]⟩
theorem tens_at (d : Nat) (hd : d < 10) (acc : List UInt8) : tens.extract d (d + 1) ++ bstr acc = bstr (UInt8.ofNat (48 + d) :: acc) := by
 have h : ∀ d : Fin 10, tens.extract d.1 (d.1 + 1) = bstr [UInt8.ofNat (48 + d.1)] := by decide +kernel
 have := h ⟨d, hd⟩
 simp only at this
 rw [this]
 apply ByteArray.ext
 simp [bstr]
theorem dec_small {u : Nat} (h : u < 10) : Lib.decDigits u = [UInt8.ofNat (48 + u)] := by rw [Lib.decDigits, dif_pos h]
theorem dec_big {u : Nat} (h : ¬ u < 10) : Lib.decDigits u = Lib.decDigits (u / 10) ++ [UInt8.ofNat (48 + u % 10)] := by rw [Lib.decDigits, dif_neg h]
theorem dec_len : ∀ u : Nat, (Lib.decDigits u).length ≤ u + 1 := by
 intro u
 induction u using Nat.strongRecOn with
 | _ u ih =>
  by_cases h : u < 10
  ·rw [dec_small h]; simp
  ·rw [dec_big h]
   have := ih (u / 10) (by omega)
   simp; omega

def DigAt (N m : Nat) (acc : List UInt8) : Prop := (m = N ∧ acc = []) ∨ (acc ≠ [] ∧ (if m = 0 then [] else Lib.decDigits m) ++ acc = Lib.decDigits N)
theorem dig_next {N m : Nat} {acc : List UInt8} (h : DigAt N m acc) (hgo : 0 < m ∨ acc = []) : DigAt N (m / 10) (UInt8.ofNat (48 + m % 10) :: acc) := by
 refine .inr ⟨by simp, ?_⟩
 have e : (if m / 10 = 0 then [] else Lib.decDigits (m / 10)) ++ [UInt8.ofNat (48 + m % 10)] = Lib.decDigits m := by
  by_cases hm : m < 10
  ·rw [dec_small hm, if_pos (by omega), Nat.mod_eq_of_lt hm]; rfl
  ·rw [dec_big hm, if_neg (by omega)]
 rw [← List.singleton_append, ← List.append_assoc, e]
 rcases h with ⟨rfl, rfl⟩ | ⟨ha, he⟩
 ·simp
 ·have hm : m ≠ 0 := by rcases hgo with h | h; omega; exact absurd h ha
  rw [if_neg hm] at he
  exact he
theorem dig_end {N : Nat} {acc : List UInt8} (h : DigAt N 0 acc) (ha : acc ≠ []) : acc = Lib.decDigits N := by
 rcases h with ⟨_, h⟩ | ⟨_, h⟩
 ·exact absurd h ha
 ·simpa using h
theorem dig_len {N m : Nat} {acc : List UInt8} (h : DigAt N m acc) : acc.length ≤ N + 1 := by
 rcases h with ⟨_, rfl⟩ | ⟨_, h⟩
 ·simp
 ·have h1 := congrArg List.length h
  have h2 := dec_len N
  rw [List.length_append] at h1
  omega
theorem bstr_size (l : List UInt8) : (bstr l).size = l.length := by
 show l.toArray.size = _
 simp
def digLeft (n s : Value) : Nat := (intOf n).toNat + (match s with | .string b => (if b.size = 0 then 1 else 0) | _ => 0)
theorem digLeft_at (m : Nat) (acc : List UInt8) : digLeft (.int .i64 m) (.string (bstr acc)) = m + (if acc.length = 0 then 1 else 0) := by
 simp [digLeft, intOf, bstr_size]
theorem bstr_list (l : List UInt8) : (bstr l).toList = l := by rw [ByteArray.toList_eq]; simp [bstr]

set_option maxHeartbeats 1000000 in
theorem digits_pos (N : Nat) (w : World) (hN : N ≤ 9007199254740991) :
  Calls Tryz.prog 67 #[.int .i64 N] w fun e w' => e = .returned (.string (bstr (Lib.decDigits N))) ∧ w = w' := by
 go_enter Tryz.func67, Tryz.ntmps67
 go_wp2_with fail
 go_loop [0, 3] (fun n s => ∃ (m : Nat) (acc : List UInt8), m ≤ N ∧ n = .int .i64 m ∧ s = .string (bstr acc) ∧ Hid (DigAt N m acc)) (fun n s => digLeft n s)
 case atStart => exact ⟨N, [], Nat.le_refl _, rfl, rfl, Lib.hid (.inl ⟨rfl, rfl⟩)⟩
 case round =>
  obtain ⟨m, acc, hm, rfl, rfl, HD⟩ := hrel
  have hl := dig_len HD.out
  have hsz : (bstr acc).size = acc.length := bstr_size acc
  rcases Nat.eq_zero_or_pos m with h0 | h0
  ·subst h0
   rcases List.eq_nil_or_concat acc with ha | ⟨_, _, ha⟩
   ·subst ha
    have HN := Lib.hid (dig_next HD.out (.inr rfl))
    have hE : (bstr []).toList.isEmpty = true := by rw [bstr_list]; rfl
    clear hl hsz
    go_wp2_with fail
    go_round
    case rel => exact ⟨0, [48], Nat.zero_le _, rfl, congrArg Value.string (tens_at 0 (by omega) []), Lib.hid HN.out⟩
    case measure => exact (by decide : digLeft (.int .i64 0) (.string (bstr [48])) < digLeft (.int .i64 0) (.string (bstr [])))
   ·have hne : acc ≠ [] := by subst ha; simp
    have HE := Lib.hid (dig_end HD.out hne)
    have hE : (bstr acc).toList.isEmpty = false := by rw [bstr_list]; simpa using hne
    clear hl hsz ha hne
    go_wp2_with fail
    go_ret
    exact ⟨ret_str (by rw [HE.out]), rfl⟩
  ·have HN := Lib.hid (dig_next HD.out (.inl h0))
   have HT := Lib.hid (tens_at (m % 10) (by omega) acc)
   go_wp2_with fail
   go_round
   case rel => exact ⟨m / 10, UInt8.ofNat (48 + m % 10) :: acc, by omega, by go_num, congrArg Value.string HT.out, HN⟩
   case measure =>
    have e1 := digLeft_at (m / 10) (UInt8.ofNat (48 + m % 10) :: acc)
    have e2 := digLeft_at m acc
    rw [← HT.out] at e1
    have e3 : ((m / 10 : Nat) : Int) = (m : Int) / 10 := by omega
    rw [e3] at e1
    show digLeft _ _ < digLeft _ _
    rw [e1, e2]
    simp
    omega

set_option maxHeartbeats 1000000 in
theorem digits_any (n : Int) (w : World) (h0 : -9007199254740991 ≤ n) (h1 : n ≤ 9007199254740991) :
  Calls Tryz.prog 67 #[.int .i64 n] w fun e w' => e = .returned (.string (bstr (Lib.itoa n))) ∧ w = w' := by
 by_cases hn : 0 ≤ n
 ·obtain ⟨N, rfl⟩ := Int.eq_ofNat_of_zero_le hn
  rw [show Lib.itoa (N : Int) = Lib.decDigits N by unfold Lib.itoa; rw [if_neg (by omega)]; rfl]
  exact digits_pos N w (by omega)
 ·have HF := Lib.hid (show Lib.itoa n = 45 :: Lib.decDigits n.natAbs by unfold Lib.itoa; rw [if_pos (by omega)])
  have hl := dec_len n.natAbs
  have hD := digits_pos n.natAbs
  have HD := Lib.hid hD
  have hna : ((n.natAbs : Nat) : Int) = - n := by omega
  have HA := Lib.hid hna
  have hnl : n < 0 := by omega
  clear hD hna
  go_enter Tryz.func67, Tryz.ntmps67
  go_wp2_with fail
  rw [← HA.out]
  refine (HD.out _ (by omega)).mono ?_
  generalize Lib.decDigits n.natAbs = D at hl HF ⊢
  have hs : (bstr D).size = D.length := bstr_size D
  rintro e w1 ⟨rfl, rfl⟩
  go_wp2_with fail
  go_ret
  exact ⟨ret_str (by rw [HF.out]; apply ByteArray.ext; simp [bstr]), rfl⟩

theorem dbl_snoc (l : List UInt8) (c : UInt8) : dbl (l ++ [c]) = dbl l ++ (if c = 39 then [39, 39] else [c]) := by
 simp [dbl]
theorem take_snoc (s : ByteArray) (k : Nat) (h : k < s.size) : s.data.toList.take (k + 1) = s.data.toList.take k ++ [s[k]] := by
 rw [List.take_succ_eq_append_getElem (by simpa using h)]; rfl
def shownTo (s : ByteArray) (k : Nat) : List UInt8 := 39 :: dbl (s.data.toList.take k)
theorem shown_len (s : ByteArray) (k : Nat) : (shownTo s k).length ≤ 2 * k + 1 := by
 have h := dbl_le (s.data.toList.take k)
 have : (s.data.toList.take k).length ≤ k := List.length_take_le _ _
 unfold shownTo
 simp
 omega
theorem one_of (s : ByteArray) (k : Nat) (h : k < s.size) : s.extract k (k + 1) = bstr [s[k]] := by
 apply ByteArray.ext
 rw [ByteArray.data_extract]
 apply Array.ext'
 rw [Array.toList_extract]
 have hk : k < s.data.toList.length := by simpa using h
 simp only [bstr, List.extract_eq_take_drop, Nat.add_sub_cancel_left]
 rw [List.drop_eq_getElem_cons hk]
 rfl
theorem shown_one (s : ByteArray) (k : Nat) (h : k < s.size) : bstr (shownTo s k) ++ s.extract k (k + 1) = bstr (shownTo s k ++ [s[k]]) := by
 rw [one_of s k h]
 apply ByteArray.ext
 simp [bstr]
theorem shown_q (l : List UInt8) : bstr l ++ qt = bstr (l ++ [39]) := by
 apply ByteArray.ext
 simp [bstr]

theorem shown_next_q (s : ByteArray) (k : Nat) (h : k < s.size) (hc : ((s[k].toNat : Int) == 39) = true) : bstr (shownTo s k) ++ s.extract k (k + 1) ++ qt = bstr (shownTo s (k + 1)) := by
 have e : s[k] = 39 := by
  apply UInt8.toNat_inj.1
  have : (s[k].toNat : Int) = 39 := by simpa using hc
  show s[k].toNat = 39
  omega
 rw [shown_one s k h, shown_q]
 congr 1
 unfold shownTo
 rw [take_snoc s k h, dbl_snoc, e, if_pos rfl]
 simp
theorem shown_next (s : ByteArray) (k : Nat) (h : k < s.size) (hc : ((s[k].toNat : Int) == 39) = false) : bstr (shownTo s k) ++ s.extract k (k + 1) = bstr (shownTo s (k + 1)) := by
 have e : ¬ s[k] = 39 := by
  intro he
  rw [he] at hc
  exact absurd hc (by decide)
 rw [shown_one s k h]
 congr 1
 unfold shownTo
 rw [take_snoc s k h, dbl_snoc, if_neg e]
 simp

set_option maxHeartbeats 1000000 in
theorem refShow_any (k n : Int) (s : ByteArray) (w : World) (hs : s.size ≤ 9223372036854775807) :
  Calls Tryz.prog 34 #[VV k n s] w fun e w' => e = .returned (.string (bstr (showL k n s))) ∧ Below w.heap.size w w' := by
 cases hok : okV k n s
 ·have HF := Lib.hid (show showL k n s = [63] by simp [showL, hok])
  have HK := Lib.hid hok
  clear hok
  go_enter Tryz.func34, Tryz.ntmps34
  go_wp2_with fail
  refine (refCheck_no _ _ _ _ hs HK.out).mono ?_
  rintro e w1 ⟨rfl, hb1⟩
  go_wp2_with fail
  go_ret
  exact ⟨ret_str (by rw [HF.out]; rfl), bt (ba _ _) hb1⟩
 ·have HK := Lib.hid hok
  by_cases h1 : k = 1
  ·subst h1
   have h01 : n = 0 ∨ n = 1 := by simp [okV] at hok; exact hok.1
   rcases h01 with h | h
   ·subst h
    have HF := Lib.hid (show showL 1 0 s = [70, 65, 76, 83, 69] by simp [showL, hok])
    clear hok
    go_enter Tryz.func34, Tryz.ntmps34
    go_wp2_with fail
    refine (refCheck_yes _ _ _ _ hs HK.out).mono ?_
    rintro e w1 ⟨rfl, hb1⟩
    obtain ⟨c0, c1, c2⟩ := box1 hb1
    go_wp2_with fail
    go_ret
    exact ⟨ret_str (by rw [HF.out]; rfl), bt (ba _ _) hb1⟩
   ·subst h
    have HF := Lib.hid (show showL 1 1 s = [84, 82, 85, 69] by simp [showL, hok])
    clear hok
    go_enter Tryz.func34, Tryz.ntmps34
    go_wp2_with fail
    refine (refCheck_yes _ _ _ _ hs HK.out).mono ?_
    rintro e w1 ⟨rfl, hb1⟩
    obtain ⟨c0, c1, c2⟩ := box1 hb1
    go_wp2_with fail
    go_ret
    exact ⟨ret_str (by rw [HF.out]; rfl), bt (ba _ _) hb1⟩
  ·by_cases h2 : k = 2
   ·subst h2
    have hb : -9007199254740991 ≤ n ∧ n ≤ 9007199254740991 := by simp [okV] at hok; exact hok.1
    have HF := Lib.hid (show showL 2 n s = Lib.itoa n by simp [showL, hok])
    clear hok h1
    go_enter Tryz.func34, Tryz.ntmps34
    go_wp2_with fail
    refine (refCheck_yes _ _ _ _ hs HK.out).mono ?_
    rintro e w1 ⟨rfl, hb1⟩
    obtain ⟨c0, c1, c2⟩ := box1 hb1
    have hB1 := bt (ba _ _) hb1
    go_wp2_with fail
    refine (digits_any _ _ hb.1 hb.2).mono ?_
    rintro e w2 ⟨rfl, rfl⟩
    go_wp2_with fail
    go_ret
    exact ⟨ret_str (by rw [HF.out]), hB1⟩
   ·by_cases h3 : k = 3
    ·subst h3
     have h0 : n = 0 ∧ s.size ≤ 64 := by simp [okV] at hok; exact hok
     obtain ⟨rfl, h64⟩ := h0
     have HF := Lib.hid (show showL 3 0 s = shownTo s s.size ++ [39] by
      have e : s.data.toList.take s.size = s.data.toList := List.take_of_length_le (by simp)
      simp [showL, hok, shownTo, e])
     clear hok h1 h2
     go_enter Tryz.func34, Tryz.ntmps34
     go_wp2_with fail
     refine (refCheck_yes _ _ _ _ hs HK.out).mono ?_
     rintro e w1 ⟨rfl, hb1⟩
     obtain ⟨c0, c1, c2⟩ := box1 hb1
     have hB1 := bt (ba _ _) hb1
     go_wp2_with fail
     go_loop [3, 4] (fun t i => ∃ j : Nat, j ≤ s.size ∧ i = .int .i64 j ∧ t = .string (bstr (shownTo s j))) (fun _ i => s.size - (intOf i).toNat)
     case atStart => exact ⟨0, Nat.zero_le _, rfl, rfl⟩
     case round =>
      obtain ⟨j, hj, rfl, rfl⟩ := hrel
      have hl := shown_len s j
      have hz : (bstr (shownTo s j)).size = (shownTo s j).length := bstr_size _
      by_cases hlt : j < s.size
      ·go_wp2_with fail
       ·have hc : ((s[j].toNat : Int) == 39) = true := by assumption
        go_round
        case rel => exact ⟨j + 1, by omega, by go_num, congrArg Value.string (shown_next_q s j hlt hc)⟩
        case measure => simp [intOf]; omega
       ·have hc : ((s[j].toNat : Int) == 39) = false := by assumption
        go_round
        case rel => exact ⟨j + 1, by omega, by go_num, congrArg Value.string (shown_next s j hlt hc)⟩
        case measure => simp [intOf]; omega
      ·obtain rfl : j = s.size := by omega
       go_wp2_with fail
       go_ret
       exact ⟨ret_str (by rw [HF.out]; exact shown_q _), hB1⟩
    ·have h0 : k = 0 := by
      by_cases h0 : k = 0
      ·exact h0
      ·simp [okV, h0, h1, h2, h3] at hok
     subst h0
     have HF := Lib.hid (show showL 0 n s = [78, 85, 76, 76] by simp [showL, hok])
     clear hok h1 h2 h3
     go_enter Tryz.func34, Tryz.ntmps34
     go_wp2_with fail
     refine (refCheck_yes _ _ _ _ hs HK.out).mono ?_
     rintro e w1 ⟨rfl, hb1⟩
     obtain ⟨c0, c1, c2⟩ := box1 hb1
     go_wp2_with fail
     go_ret
     exact ⟨ret_str (by rw [HF.out]; rfl), bt (ba _ _) hb1⟩

end Go.Proofs.YtfjimoccliejdaaGreatDoor
end
section
namespace Go.Proofs.YtfjimoccliejdaaGreatDoor
section
open Go.RowKit Go.Shelf

def sgnCells : Array Value := (btw.map fun b => Value.string ⟨b.toArray⟩).toArray
theorem refSigns_any (w : World) :
  Calls Tryz.prog 35 #[] w fun e w' => e = .returned (.slice (some ⟨w.heap.size, 0, none⟩) 15 15) ∧ w' = w.alloc (.cells sgnCells 9) := by
 go_enter Tryz.func35, Tryz.ntmps35
 go_wp2
 go_ret
 exact ⟨rfl, congrArg (fun c => w.alloc (.cells c 9)) (by kernel_rfl)⟩
theorem sgnCells_at (w : World) {j : Nat} {b : List UInt8} (h : btw[j]? = some b) : (w.alloc (.cells sgnCells 9)).cell? ⟨w.heap.size, j, none⟩ = some (.string ⟨b.toArray⟩) := by
 have hn := (MapKept.heap_alloc w (.cells sgnCells 9)).1
 unfold World.cell?
 rw [hn]
 simp [sgnCells, h]
def RShowsAt (w : World) (x : Ex) (A : Option Addr) (cap : Nat) : Prop :=
 ∀ w1, Below w.heap.size w w1 → Calls Tryz.prog 16 #[XV x.hd A x.kids.length cap] w1 fun e w' => e = .returned (.string (bstr (shwX x))) ∧ Below w1.heap.size w1 w'
set_option maxHeartbeats 4000000 in
theorem rshowOp1_of (n vk vn : Int) (vs tab col : ByteArray) (x : Ex) (g o cap : Nat) (A' : Option Addr) (cap' : Nat) (w : World) (hg : g < w.heap.size) (hX : XC w g o x.hd A' x.kids.length cap') (ih : RShowsAt w x A' cap') (hlen : (shwX x).length ≤ 4611686018427387904) (hn : n = 3 ∨ n = 15 ∨ n = 16 ∨ n = 17) (S : List UInt8) :
  Calls Tryz.prog 16 #[XV ⟨3, n, vk, vn, vs, tab, col⟩ (some ⟨g, o, none⟩) 1 cap] w fun e w' => e = .returned (.string (bstr ([40] ++ opX n (shwX x) S ++ [41]))) ∧ Below w.heap.size w w' := by
 have HI := Lib.hid (ih _ (ba w (xbox ⟨3, n, vk, vn, vs, tab, col⟩ (some ⟨g, o, none⟩) 1 cap)))
 obtain ⟨⟨k', n', vk', vn', vs', tab', col'⟩, l'⟩ := x
 obtain ⟨T, hT⟩ : ∃ T, shwX (.mk ⟨k', n', vk', vn', vs', tab', col'⟩ l') = T := ⟨_, rfl⟩
 rw [hT] at hlen ⊢
 obtain ⟨TB, hTB⟩ : ∃ TB, bstr T = TB := ⟨_, rfl⟩
 have HTB := Lib.hid hTB.symm
 obtain ⟨a0, a1, a2, a3, a4, a5, a6, a7⟩ := hX
 have hTs : TB.size ≤ 4611686018427387904 := by rw [← hTB]; show T.toArray.size ≤ _; simpa using hlen
 rw [hT, hTB] at HI
 simp only [Ex.hd, Ex.kids] at HI a0 a1 a2 a3 a4 a5 a6 a7
 clear ih hT hTB hlen
 rcases hn with rfl | rfl | rfl | rfl
 all_goals
  go_enter Tryz.func16, Tryz.ntmps16
  go_wp2_with fail
  refine HI.out.mono ?_
  rintro e w1 ⟨rfl, hb⟩
  have HB := Lib.hid (bt (ba w _) hb)
  clear hb a0 a1 a2 a3 a4 a5 a6 a7
  go_wp2_with fail
  go_ret
  exact ⟨ret_str (by rw [HTB.out]; apply ByteArray.ext; simp [bstr, opX]), HB.out⟩
def wrd : List (List UInt8) := [[], [67, 79, 85, 78, 84], [67, 79, 85, 78, 84], [83, 85, 77], [77, 73, 78], [77, 65, 88]]
def wrdCells : Array Value := (wrd.map fun b => Value.string ⟨b.toArray⟩).toArray
theorem wrdCells_is : wrdCells = #[.string ⟨#[]⟩, .string ⟨#[67, 79, 85, 78, 84]⟩, .string ⟨#[67, 79, 85, 78, 84]⟩, .string ⟨#[83, 85, 77]⟩, .string ⟨#[77, 73, 78]⟩, .string ⟨#[77, 65, 88]⟩] := by rfl
theorem wrdCells_at (w : World) {j : Nat} {b : List UInt8} (h : wrd[j]? = some b) : (w.alloc (.cells wrdCells 9)).cell? ⟨w.heap.size, j, none⟩ = some (.string ⟨b.toArray⟩) := by
 have hn := (MapKept.heap_alloc w (.cells wrdCells 9)).1
 unfold World.cell?
 rw [hn]
 simp [wrdCells, h]
set_option maxRecDepth 100000 in
set_option maxHeartbeats 8000000 in
theorem rshowAgg_of (m : Nat) (vk vn : Int) (vs tab col : ByteArray) (x : Ex) (g o cap : Nat) (A' : Option Addr) (cap' : Nat) (w : World) (hg : g < w.heap.size) (hX : XC w g o x.hd A' x.kids.length cap') (ih : RShowsAt w x A' cap') (hlen : (shwX x).length ≤ 4611686018427387904) (hn : 2 ≤ m ∧ m ≤ 5) :
  Calls Tryz.prog 16 #[XV ⟨4, m, vk, vn, vs, tab, col⟩ (some ⟨g, o, none⟩) 1 cap] w fun e w' => e = .returned (.string (bstr (aggX m (shwX x)))) ∧ Below w.heap.size w w' := by
 obtain ⟨n, hnm⟩ : ∃ n : Int, (m : Int) = n := ⟨_, rfl⟩
 rw [hnm]
 obtain ⟨b, hb⟩ : ∃ b, wrd[m]? = some b := ⟨_, List.getElem?_eq_getElem (by simp [wrd]; omega)⟩
 have hba := ba2 w (xbox ⟨4, n, vk, vn, vs, tab, col⟩ (some ⟨g, o, none⟩) 1 cap) (.cells wrdCells 9)
 have HI := Lib.hid ih
 have HBx := Lib.hid hba
 have hx := ((ba (w.alloc (xbox ⟨4, n, vk, vn, vs, tab, col⟩ (some ⟨g, o, none⟩) 1 cap)) (.cells wrdCells 9)).block w.heap.size (by rw [World.size_alloc]; omega)).trans (MapKept.heap_alloc w (xbox ⟨4, n, vk, vn, vs, tab, col⟩ (some ⟨g, o, none⟩) 1 cap)).1
 obtain ⟨⟨_, c1, _, _, _, _, _, c7⟩, _⟩ := cell8 hx
 have HN1 := Lib.hid c1
 have HN7 := Lib.hid c7
 have cw := wrdCells_at (w.alloc (xbox ⟨4, n, vk, vn, vs, tab, col⟩ (some ⟨g, o, none⟩) 1 cap)) hb
 rw [World.size_alloc] at cw
 have HF := Lib.hid (show ∀ f, aggX n f = b ++ [40] ++ f ++ [41] by
  intro f
  rw [← hnm]
  rcases (show m = 2 ∨ m = 3 ∨ m = 4 ∨ m = 5 by omega) with rfl | rfl | rfl | rfl <;> simp [wrd] at hb <;> subst hb <;> simp [aggX])
 have hbs : b.length ≤ 5 := by rcases (show m = 2 ∨ m = 3 ∨ m = 4 ∨ m = 5 by omega) with rfl | rfl | rfl | rfl <;> simp [wrd] at hb <;> subst hb <;> simp
 obtain ⟨BB, hBB⟩ : ∃ BB : ByteArray, (⟨b.toArray⟩ : ByteArray) = BB := ⟨_, rfl⟩
 have HBB := Lib.hid hBB.symm
 have hbz : BB.size ≤ 5 := by rw [← hBB]; show b.toArray.size ≤ 5; simpa using hbs
 rw [hBB] at cw
 subst hnm
 have HNw := Lib.hid cw
 obtain ⟨⟨k', n', vk', vn', vs', tab', col'⟩, l'⟩ := x
 obtain ⟨T, hT⟩ : ∃ T, shwX (.mk ⟨k', n', vk', vn', vs', tab', col'⟩ l') = T := ⟨_, rfl⟩
 rw [hT] at hlen ⊢
 obtain ⟨TB, hTB⟩ : ∃ TB, bstr T = TB := ⟨_, rfl⟩
 have HTB := Lib.hid hTB.symm
 have hXW := hX.of (hba.block g hg)
 obtain ⟨a0, a1, a2, a3, a4, a5, a6, a7⟩ := hXW
 have hTs : TB.size ≤ 4611686018427387904 := by rw [← hTB]; show T.toArray.size ≤ _; simpa using hlen
 have HI := Lib.hid (show ∀ w1, Below w.heap.size w w1 → Calls Tryz.prog 16 #[XV ⟨k', n', vk', vn', vs', tab', col'⟩ A' l'.length cap'] w1 fun e w' => e = .returned (.string TB) ∧ Below w1.heap.size w1 w' by
  intro w1 hb1
  have := HI.out w1 hb1
  rw [hT, hTB] at this
  exact this)
 simp only [Ex.hd, Ex.kids] at a0 a1 a2 a3 a4 a5 a6 a7
 have m1 : ¬ (m : Int) = 1 := by omega
 have m0 : (0 : Int) ≤ (m : Int) := by omega
 have m6 : (m : Int) < 6 := by omega
 have mw : IntKind.i64.wrap (m : Int) = (m : Int) := by rw [IntKind.wrap_i64]; omega
 have p1 : ¬ 9223372036854775807 < BB.size + 1 := by omega
 have p2 : ¬ 9223372036854775807 < BB.size + 1 + TB.size := by omega
 have p3 : ¬ 9223372036854775807 < BB.size + 1 + TB.size + 1 := by omega
 have HW := Lib.hid wrdCells_is
 clear ih hT hTB hlen hBB hX c1 c7 cw hb hbs hx hba
 go_enter Tryz.func16, Tryz.ntmps16
 go_wp2_with fail
 go_upto_region 12 with fail
 rw [← HW.out]
 refine wp_region_noPanic ?_
 refine wp_region_held_drew (S := fun Wd => Below ((w.alloc (xbox ⟨4, m, vk, vn, vs, tab, col⟩ (some ⟨g, o, none⟩) 1 cap)).alloc (.cells wrdCells 9)).heap.size ((w.alloc (xbox ⟨4, m, vk, vn, vs, tab, col⟩ (some ⟨g, o, none⟩) 1 cap)).alloc (.cells wrdCells 9)) Wd) (by kernel_rfl) (Below.drew (Below.refl _ _)) (fun hHeld => ?_)
 refine wpAnyH_take (i := 0) (oi := { dst := some 30, op := Go.Op.move (Go.Operand.tmp 3), type := 80, pos := "ref.go:122", after := #[], guard := none }) (v := ?_) rfl (by kernel_rfl) (by kernel_rfl) (by kernel_rfl) (fun _ _ _ h => h) (Or.inl ⟨by rfl, ?_⟩) hHeld ?_
 rotate_left 1
 ·(intro w0 hSw); (try dsimp only at hSw); go_simp <;> with_reducible rfl
 (try simp only [Act.put, List.setIfInBounds_toArray, List.set_cons_zero, List.set_cons_succ])
 refine wpAnyH_take (i := 1) (oi := { dst := some 31, op := Go.Op.fieldAddr 37 (Go.Operand.tmp 1) 1, type := 0, pos := "ref.go:122", after := #[], guard := none }) (v := ?_) rfl (by kernel_rfl) (by kernel_rfl) (by kernel_rfl) (fun _ _ _ h => h) (Or.inl ⟨by rfl, ?_⟩) hHeld ?_
 rotate_left 1
 ·(intro w0 hSw); (try dsimp only at hSw); go_simp <;> with_reducible rfl
 (try simp only [Act.put, List.setIfInBounds_toArray, List.set_cons_zero, List.set_cons_succ])
 refine wpAnyH_take (i := 2) (oi := { dst := some 32, op := Go.Op.load 3 (Go.Operand.tmp 31), type := 3, pos := "ref.go:122", after := #[{ on := 1, ground := Go.Ground.data }], guard := none }) (v := ?_) rfl (by kernel_rfl) (by kernel_rfl) (by kernel_rfl) (fun _ _ _ h => h) (Or.inl ⟨by rfl, ?_⟩) hHeld ?_
 rotate_left 1
 ·(intro w0 hSw); (try dsimp only at hSw); have u1 := cell_kept hSw HN1.out; have u7 := cell_kept hSw HN7.out; have uw := cell_kept hSw HNw.out; have t0 := cell_kept hSw a0; have t1 := cell_kept hSw a1; have t2 := cell_kept hSw a2; have t3 := cell_kept hSw a3; have t4 := cell_kept hSw a4; have t5 := cell_kept hSw a5; have t6 := cell_kept hSw a6; have t7 := cell_kept hSw a7; go_simp <;> with_reducible rfl
 (try simp only [Act.put, List.setIfInBounds_toArray, List.set_cons_zero, List.set_cons_succ])
 refine wpAnyH_take (i := 3) (oi := { dst := some 33, op := Go.Op.indexAddr 80 (Go.Operand.tmp 30) (Go.Operand.tmp 32), type := 0, pos := "ref.go:122", after := #[{ on := 0, ground := Go.Ground.data }, { on := 2, ground := Go.Ground.data }], guard := none }) (v := ?_) rfl (by kernel_rfl) (by kernel_rfl) (by kernel_rfl) (fun _ _ _ h => h) (Or.inl ⟨by rfl, ?_⟩) hHeld ?_
 rotate_left 1
 ·(intro w0 hSw); (try dsimp only at hSw); go_simp <;> with_reducible rfl
 (try simp only [Act.put, List.setIfInBounds_toArray, List.set_cons_zero, List.set_cons_succ])
 refine wpAnyH_take (i := 4) (oi := { dst := some 34, op := Go.Op.load 9 (Go.Operand.tmp 33), type := 9, pos := "ref.go:122", after := #[{ on := 3, ground := Go.Ground.data }], guard := none }) (v := ?_) rfl (by kernel_rfl) (by kernel_rfl) (by kernel_rfl) (fun _ _ _ h => h) (Or.inl ⟨by rfl, ?_⟩) hHeld ?_
 rotate_left 1
 ·(intro w0 hSw); (try dsimp only at hSw); have u1 := cell_kept hSw HN1.out; have u7 := cell_kept hSw HN7.out; have uw := cell_kept hSw HNw.out; have t0 := cell_kept hSw a0; have t1 := cell_kept hSw a1; have t2 := cell_kept hSw a2; have t3 := cell_kept hSw a3; have t4 := cell_kept hSw a4; have t5 := cell_kept hSw a5; have t6 := cell_kept hSw a6; have t7 := cell_kept hSw a7; go_simp <;> with_reducible rfl
 (try simp only [Act.put, List.setIfInBounds_toArray, List.set_cons_zero, List.set_cons_succ])
 refine wpAnyH_take (i := 5) (oi := { dst := some 35, op := Go.Op.binOp Go.BinOp.add 9 (Go.Operand.tmp 34) (Go.Operand.const (Go.Value.string { data := #[40] })) 9, type := 9, pos := "ref.go:122", after := #[{ on := 4, ground := Go.Ground.data }], guard := none }) (v := ?_) rfl (by kernel_rfl) (by kernel_rfl) (by kernel_rfl) (fun _ _ _ h => h) (Or.inl ⟨by rfl, ?_⟩) hHeld ?_
 rotate_left 1
 ·(intro w0 hSw); (try dsimp only at hSw); go_simp <;> with_reducible rfl
 (try simp only [Act.put, List.setIfInBounds_toArray, List.set_cons_zero, List.set_cons_succ])
 refine wpAnyH_take (i := 6) (oi := { dst := some 36, op := Go.Op.fieldAddr 37 (Go.Operand.tmp 1) 5, type := 0, pos := "ref.go:122", after := #[], guard := none }) (v := ?_) rfl (by kernel_rfl) (by kernel_rfl) (by kernel_rfl) (fun _ _ _ h => h) (Or.inl ⟨by rfl, ?_⟩) hHeld ?_
 rotate_left 1
 ·(intro w0 hSw); (try dsimp only at hSw); go_simp <;> with_reducible rfl
 (try simp only [Act.put, List.setIfInBounds_toArray, List.set_cons_zero, List.set_cons_succ])
 refine wpAnyH_take (i := 7) (oi := { dst := some 37, op := Go.Op.load 35 (Go.Operand.tmp 36), type := 35, pos := "ref.go:122", after := #[{ on := 6, ground := Go.Ground.data }], guard := none }) (v := ?_) rfl (by kernel_rfl) (by kernel_rfl) (by kernel_rfl) (fun _ _ _ h => h) (Or.inl ⟨by rfl, ?_⟩) hHeld ?_
 rotate_left 1
 ·(intro w0 hSw); (try dsimp only at hSw); have u1 := cell_kept hSw HN1.out; have u7 := cell_kept hSw HN7.out; have uw := cell_kept hSw HNw.out; have t0 := cell_kept hSw a0; have t1 := cell_kept hSw a1; have t2 := cell_kept hSw a2; have t3 := cell_kept hSw a3; have t4 := cell_kept hSw a4; have t5 := cell_kept hSw a5; have t6 := cell_kept hSw a6; have t7 := cell_kept hSw a7; go_simp <;> with_reducible rfl
 (try simp only [Act.put, List.setIfInBounds_toArray, List.set_cons_zero, List.set_cons_succ])
 refine wpAnyH_take (i := 8) (oi := { dst := some 38, op := Go.Op.indexAddr 35 (Go.Operand.tmp 37) (Go.Operand.const (Go.Value.int Go.IntKind.i64 0)), type := 0, pos := "ref.go:122", after := #[{ on := 7, ground := Go.Ground.data }], guard := none }) (v := ?_) rfl (by kernel_rfl) (by kernel_rfl) (by kernel_rfl) (fun _ _ _ h => h) (Or.inl ⟨by rfl, ?_⟩) hHeld ?_
 rotate_left 1
 ·(intro w0 hSw); (try dsimp only at hSw); go_simp <;> with_reducible rfl
 (try simp only [Act.put, List.setIfInBounds_toArray, List.set_cons_zero, List.set_cons_succ])
 refine wpAnyH_take (i := 9) (oi := { dst := some 39, op := Go.Op.load 37 (Go.Operand.tmp 38), type := 37, pos := "ref.go:122", after := #[{ on := 8, ground := Go.Ground.data }], guard := none }) (v := ?_) rfl (by kernel_rfl) (by kernel_rfl) (by kernel_rfl) (fun _ _ _ h => h) (Or.inl ⟨by rfl, ?_⟩) hHeld ?_
 rotate_left 1
 ·(intro w0 hSw); (try dsimp only at hSw); have u1 := cell_kept hSw HN1.out; have u7 := cell_kept hSw HN7.out; have uw := cell_kept hSw HNw.out; have t0 := cell_kept hSw a0; have t1 := cell_kept hSw a1; have t2 := cell_kept hSw a2; have t3 := cell_kept hSw a3; have t4 := cell_kept hSw a4; have t5 := cell_kept hSw a5; have t6 := cell_kept hSw a6; have t7 := cell_kept hSw a7; go_simp <;> with_reducible rfl
 (try simp only [Act.put, List.setIfInBounds_toArray, List.set_cons_zero, List.set_cons_succ])
 refine wpAnyH_ready (rs := [10]) (by kernel_rfl) (by simp) ?_
 refine (AllReadyH.cons (o := { dst := some 40, op := Go.Op.call { callee := Go.Callee.value (Go.Operand.func 16), args := #[Go.Operand.tmp 39], argTypes := #[37] }, type := 9, pos := "ref.go:122", after := #[{ on := 9, ground := Go.Ground.data }], guard := none }) rfl (fun K hK => ?_) AllReadyH.nil)
 rw [if_pos (by rfl)]
 go_simp
 refine (HI.out _ (bt HBx.out (Below.drew (Below.refl _ _)))).mono ?_
 rintro e w' ⟨rfl, hb⟩
 have HHo := Lib.hid (bt (Below.drew (Below.refl _ _)) hb)
 clear hb hHeld
 go_wp2_with fail
 refine hK.out _ _ HHo.out (fun hHeld => ?_)
 clear hK K
 (try simp only [Act.put, List.setIfInBounds_toArray, List.set_cons_zero, List.set_cons_succ])
 refine wpAnyH_take (i := 11) (oi := { dst := some 41, op := Go.Op.binOp Go.BinOp.add 9 (Go.Operand.tmp 35) (Go.Operand.tmp 40) 9, type := 9, pos := "ref.go:122", after := #[{ on := 5, ground := Go.Ground.data }, { on := 10, ground := Go.Ground.data }], guard := none }) (v := ?_) rfl (by kernel_rfl) (by kernel_rfl) (by kernel_rfl) (fun _ _ _ h => h) (Or.inl ⟨by rfl, ?_⟩) hHeld ?_
 rotate_left 1
 ·(intro w0 hSw); (try dsimp only at hSw); go_simp <;> with_reducible rfl
 (try simp only [Act.put, List.setIfInBounds_toArray, List.set_cons_zero, List.set_cons_succ])
 refine wpAnyH_take (i := 12) (oi := { dst := some 42, op := Go.Op.binOp Go.BinOp.add 9 (Go.Operand.tmp 41) (Go.Operand.const (Go.Value.string { data := #[41] })) 9, type := 9, pos := "ref.go:122", after := #[{ on := 11, ground := Go.Ground.data }], guard := none }) (v := ?_) rfl (by kernel_rfl) (by kernel_rfl) (by kernel_rfl) (fun _ _ _ h => h) (Or.inl ⟨by rfl, ?_⟩) hHeld ?_
 rotate_left 1
 ·(intro w0 hSw); (try dsimp only at hSw); go_simp <;> with_reducible rfl
 (try simp only [Act.put, List.setIfInBounds_toArray, List.set_cons_zero, List.set_cons_succ])
 refine wpAnyH_take (i := 13) (oi := { dst := some 2, op := Go.Op.assign (Go.Operand.tmp 42), type := 9, pos := "ref.go:122", after := #[{ on := 12, ground := Go.Ground.data }, { on := 10, ground := Go.Ground.chain }, { on := 0, ground := Go.Ground.phase }, { on := 1, ground := Go.Ground.phase }, { on := 2, ground := Go.Ground.phase }, { on := 3, ground := Go.Ground.phase }, { on := 4, ground := Go.Ground.phase }, { on := 5, ground := Go.Ground.phase }, { on := 6, ground := Go.Ground.phase }, { on := 7, ground := Go.Ground.phase }, { on := 8, ground := Go.Ground.phase }, { on := 9, ground := Go.Ground.phase }, { on := 10, ground := Go.Ground.phase }, { on := 11, ground := Go.Ground.phase }, { on := 12, ground := Go.Ground.phase }], guard := none }) (v := ?_) rfl (by kernel_rfl) (by kernel_rfl) (by kernel_rfl) (fun _ _ _ h => h) (Or.inl ⟨by rfl, ?_⟩) hHeld ?_
 rotate_left 1
 ·(intro w0 hSw); (try dsimp only at hSw); go_simp <;> with_reducible rfl
 (try simp only [Act.put, List.setIfInBounds_toArray, List.set_cons_zero, List.set_cons_succ])
 refine wpAnyH_done (by kernel_rfl) ?_ _
 refine NoPanic.normal ?_
 clear hHeld
 go_wp2_with fail
 go_ret
 exact ⟨ret_str (by rw [HF.out, HTB.out, HBB.out]; apply ByteArray.ext; simp [bstr]), bt HBx.out HHo.out⟩
theorem rshowAgg1_any (vk vn : Int) (vs tab col : ByteArray) (A : Option Addr) (len cap : Nat) (w : World) (f : List UInt8) :
  Calls Tryz.prog 16 #[XV ⟨4, 1, vk, vn, vs, tab, col⟩ A len cap] w fun e w' => e = .returned (.string (bstr (aggX 1 f))) ∧ Below w.heap.size w w' := by
 go_enter Tryz.func16, Tryz.ntmps16
 go_wp2
 go_ret
 exact ⟨rfl, ba2 w _ _⟩
set_option maxRecDepth 100000 in
set_option maxHeartbeats 8000000 in
theorem rshowOp2_of (m : Nat) (vk vn : Int) (vs tab col : ByteArray) (x y : Ex) (g o cap : Nat) (A' B' : Option Addr) (cap' cap2 : Nat) (w : World) (hg : g < w.heap.size) (hX : XC w g o x.hd A' x.kids.length cap') (hY : XC w g (o + 8) y.hd B' y.kids.length cap2) (ih : RShowsAt w x A' cap') (ih2 : RShowsAt w y B' cap2) (hlen : (shwX x).length + (shwX y).length ≤ 4611686018427387904) (hn : 1 ≤ m ∧ m ≤ 14 ∧ m ≠ 3) :
  Calls Tryz.prog 16 #[XV ⟨3, m, vk, vn, vs, tab, col⟩ (some ⟨g, o, none⟩) 2 cap] w fun e w' => e = .returned (.string (bstr ([40] ++ opX m (shwX x) (shwX y) ++ [41]))) ∧ Below w.heap.size w w' := by
 obtain ⟨b, hbm⟩ : ∃ b, btw[m]? = some b := ⟨_, List.getElem?_eq_getElem (by simp [btw]; omega)⟩
 have hba := ba w (xbox ⟨3, m, vk, vn, vs, tab, col⟩ (some ⟨g, o, none⟩) 2 cap)
 have HBx := Lib.hid hba
 obtain ⟨⟨_, c1, _, _, _, _, _, c7⟩, _⟩ := cell8 (MapKept.heap_alloc w (xbox ⟨3, m, vk, vn, vs, tab, col⟩ (some ⟨g, o, none⟩) 2 cap)).1
 have HN1 := Lib.hid c1
 have HN7 := Lib.hid c7
 have HBt := Lib.hid (show btw.getD m [] = b by rw [List.getD_eq_getElem?_getD, hbm]; rfl)
 have hbs : b.length ≤ 3 := by have := btw_len m; rw [HBt.out] at this; exact this
 obtain ⟨BB, hBB⟩ : ∃ BB : ByteArray, (⟨b.toArray⟩ : ByteArray) = BB := ⟨_, rfl⟩
 have HBB := Lib.hid hBB.symm
 have hbz : BB.size ≤ 3 := by rw [← hBB]; show b.toArray.size ≤ 3; simpa using hbs
 obtain ⟨⟨k2, n2, vk2, vn2, vs2, tab2, col2⟩, l2⟩ := y
 obtain ⟨T2, hT2⟩ : ∃ T, shwX (.mk ⟨k2, n2, vk2, vn2, vs2, tab2, col2⟩ l2) = T := ⟨_, rfl⟩
 rw [hT2] at hlen ⊢
 obtain ⟨TB2, hTB2⟩ : ∃ TB, bstr T2 = TB := ⟨_, rfl⟩
 have HTB2 := Lib.hid hTB2.symm
 obtain ⟨⟨k', n', vk', vn', vs', tab', col'⟩, l'⟩ := x
 obtain ⟨T, hT⟩ : ∃ T, shwX (.mk ⟨k', n', vk', vn', vs', tab', col'⟩ l') = T := ⟨_, rfl⟩
 rw [hT] at hlen ⊢
 obtain ⟨TB, hTB⟩ : ∃ TB, bstr T = TB := ⟨_, rfl⟩
 have HTB := Lib.hid hTB.symm
 obtain ⟨a0, a1, a2, a3, a4, a5, a6, a7⟩ := hX.of (hba.block g hg)
 obtain ⟨y0, y1, y2, y3, y4, y5, y6, y7⟩ := hY.of (hba.block g hg)
 have hTs : TB.size + TB2.size ≤ 4611686018427387904 := by rw [← hTB, ← hTB2]; show T.toArray.size + T2.toArray.size ≤ _; simpa using hlen
 have HI := Lib.hid (show ∀ w1, Below w.heap.size w w1 → Calls Tryz.prog 16 #[XV ⟨k', n', vk', vn', vs', tab', col'⟩ A' l'.length cap'] w1 fun e w' => e = .returned (.string TB) ∧ Below w1.heap.size w1 w' by
  intro w1 hb1
  have := ih w1 hb1
  rw [hT, hTB] at this
  exact this)
 have HJ := Lib.hid (show ∀ w1, Below w.heap.size w w1 → Calls Tryz.prog 16 #[XV ⟨k2, n2, vk2, vn2, vs2, tab2, col2⟩ B' l2.length cap2] w1 fun e w' => e = .returned (.string TB2) ∧ Below w1.heap.size w1 w' by
  intro w1 hb1
  have := ih2 w1 hb1
  rw [hT2, hTB2] at this
  exact this)
 simp only [Ex.hd, Ex.kids] at a0 a1 a2 a3 a4 a5 a6 a7 y0 y1 y2 y3 y4 y5 y6 y7
 have m3 : ¬ (m : Int) = 3 := by omega
 have m15 : ¬ (m : Int) = 15 := by omega
 have m16 : ¬ (m : Int) = 16 := by omega
 have m17 : ¬ (m : Int) = 17 := by omega
 have m0 : (0 : Int) ≤ (m : Int) := by omega
 have mm : (m : Int) < 15 := by omega
 have mw : IntKind.i64.wrap (m : Int) = (m : Int) := by rw [IntKind.wrap_i64]; omega
 have HOp := Lib.hid (show ∀ f s, opX m f s = f ++ [32] ++ b ++ [32] ++ s by
  intro f s
  unfold opX
  rw [if_neg m3, if_neg m15, if_neg m16, if_neg m17, Int.toNat_natCast, HBt.out])
 have p0 : ¬ 9223372036854775807 < 1 + TB.size := by omega
 have p1 : ¬ 9223372036854775807 < 1 + TB.size + 1 := by omega
 have p2 : ¬ 9223372036854775807 < 1 + TB.size + 1 + BB.size := by omega
 have p3 : ¬ 9223372036854775807 < 1 + TB.size + 1 + BB.size + 1 := by omega
 have p4 : ¬ 9223372036854775807 < 1 + TB.size + 1 + BB.size + 1 + TB2.size := by omega
 have p5 : ¬ 9223372036854775807 < 1 + TB.size + 1 + BB.size + 1 + TB2.size + 1 := by omega
 clear ih ih2 hT hTB hT2 hTB2 hlen hX hY hbs hba c1 c7
 go_enter Tryz.func16, Tryz.ntmps16
 go_wp2_with fail
 go_upto_region 22 with fail
 refine wp_region_noPanic ?_
 refine wp_region_held_drew (S := fun Wd => Below (w.alloc (xbox ⟨3, m, vk, vn, vs, tab, col⟩ (some ⟨g, o, none⟩) 2 cap)).heap.size (w.alloc (xbox ⟨3, m, vk, vn, vs, tab, col⟩ (some ⟨g, o, none⟩) 2 cap)) Wd) (by kernel_rfl) (Below.drew (Below.refl _ _)) (fun hHeld => ?_)
 refine wpAnyH_take (i := 0) (oi := { dst := some 81, op := Go.Op.fieldAddr 37 (Go.Operand.tmp 1) 5, type := 0, pos := "ref.go:134", after := #[], guard := none }) (v := ?_) rfl (by kernel_rfl) (by kernel_rfl) (by kernel_rfl) (fun _ _ _ h => h) (Or.inl ⟨by rfl, ?_⟩) hHeld ?_
 rotate_left 1
 ·(intro w0 hSw); (try dsimp only at hSw); go_simp <;> with_reducible rfl
 (try simp only [Act.put, List.setIfInBounds_toArray, List.set_cons_zero, List.set_cons_succ])
 refine wpAnyH_take (i := 1) (oi := { dst := some 82, op := Go.Op.load 35 (Go.Operand.tmp 81), type := 35, pos := "ref.go:134", after := #[{ on := 0, ground := Go.Ground.data }], guard := none }) (v := ?_) rfl (by kernel_rfl) (by kernel_rfl) (by kernel_rfl) (fun _ _ _ h => h) (Or.inl ⟨by rfl, ?_⟩) hHeld ?_
 rotate_left 1
 ·(intro w0 hSw); (try dsimp only at hSw); have u1 := cell_kept hSw HN1.out; have u7 := cell_kept hSw HN7.out; go_simp <;> with_reducible rfl
 (try simp only [Act.put, List.setIfInBounds_toArray, List.set_cons_zero, List.set_cons_succ])
 refine wpAnyH_take (i := 2) (oi := { dst := some 83, op := Go.Op.indexAddr 35 (Go.Operand.tmp 82) (Go.Operand.const (Go.Value.int Go.IntKind.i64 0)), type := 0, pos := "ref.go:134", after := #[{ on := 1, ground := Go.Ground.data }], guard := none }) (v := ?_) rfl (by kernel_rfl) (by kernel_rfl) (by kernel_rfl) (fun _ _ _ h => h) (Or.inl ⟨by rfl, ?_⟩) hHeld ?_
 rotate_left 1
 ·(intro w0 hSw); (try dsimp only at hSw); go_simp <;> with_reducible rfl
 (try simp only [Act.put, List.setIfInBounds_toArray, List.set_cons_zero, List.set_cons_succ])
 refine wpAnyH_take (i := 3) (oi := { dst := some 84, op := Go.Op.load 37 (Go.Operand.tmp 83), type := 37, pos := "ref.go:134", after := #[{ on := 2, ground := Go.Ground.data }], guard := none }) (v := ?_) rfl (by kernel_rfl) (by kernel_rfl) (by kernel_rfl) (fun _ _ _ h => h) (Or.inl ⟨by rfl, ?_⟩) hHeld ?_
 rotate_left 1
 ·(intro w0 hSw); (try dsimp only at hSw); have t0 := cell_kept hSw a0; have t1 := cell_kept hSw a1; have t2 := cell_kept hSw a2; have t3 := cell_kept hSw a3; have t4 := cell_kept hSw a4; have t5 := cell_kept hSw a5; have t6 := cell_kept hSw a6; have t7 := cell_kept hSw a7; go_simp <;> with_reducible rfl
 (try simp only [Act.put, List.setIfInBounds_toArray, List.set_cons_zero, List.set_cons_succ])
 refine wpAnyH_take (i := 8) (oi := { dst := some 89, op := Go.Op.fieldAddr 37 (Go.Operand.tmp 1) 1, type := 0, pos := "ref.go:134", after := #[], guard := none }) (v := ?_) rfl (by kernel_rfl) (by kernel_rfl) (by kernel_rfl) (fun _ _ _ h => h) (Or.inl ⟨by rfl, ?_⟩) hHeld ?_
 rotate_left 1
 ·(intro w0 hSw); (try dsimp only at hSw); go_simp <;> with_reducible rfl
 (try simp only [Act.put, List.setIfInBounds_toArray, List.set_cons_zero, List.set_cons_succ])
 refine wpAnyH_take (i := 9) (oi := { dst := some 90, op := Go.Op.load 3 (Go.Operand.tmp 89), type := 3, pos := "ref.go:134", after := #[{ on := 8, ground := Go.Ground.data }], guard := none }) (v := ?_) rfl (by kernel_rfl) (by kernel_rfl) (by kernel_rfl) (fun _ _ _ h => h) (Or.inl ⟨by rfl, ?_⟩) hHeld ?_
 rotate_left 1
 ·(intro w0 hSw); (try dsimp only at hSw); have u1 := cell_kept hSw HN1.out; have u7 := cell_kept hSw HN7.out; go_simp <;> with_reducible rfl
 (try simp only [Act.put, List.setIfInBounds_toArray, List.set_cons_zero, List.set_cons_succ])
 refine wpAnyH_take (i := 14) (oi := { dst := some 95, op := Go.Op.fieldAddr 37 (Go.Operand.tmp 1) 5, type := 0, pos := "ref.go:134", after := #[], guard := none }) (v := ?_) rfl (by kernel_rfl) (by kernel_rfl) (by kernel_rfl) (fun _ _ _ h => h) (Or.inl ⟨by rfl, ?_⟩) hHeld ?_
 rotate_left 1
 ·(intro w0 hSw); (try dsimp only at hSw); go_simp <;> with_reducible rfl
 (try simp only [Act.put, List.setIfInBounds_toArray, List.set_cons_zero, List.set_cons_succ])
 refine wpAnyH_take (i := 15) (oi := { dst := some 96, op := Go.Op.load 35 (Go.Operand.tmp 95), type := 35, pos := "ref.go:134", after := #[{ on := 14, ground := Go.Ground.data }], guard := none }) (v := ?_) rfl (by kernel_rfl) (by kernel_rfl) (by kernel_rfl) (fun _ _ _ h => h) (Or.inl ⟨by rfl, ?_⟩) hHeld ?_
 rotate_left 1
 ·(intro w0 hSw); (try dsimp only at hSw); have u1 := cell_kept hSw HN1.out; have u7 := cell_kept hSw HN7.out; go_simp <;> with_reducible rfl
 (try simp only [Act.put, List.setIfInBounds_toArray, List.set_cons_zero, List.set_cons_succ])
 refine wpAnyH_take (i := 16) (oi := { dst := some 97, op := Go.Op.indexAddr 35 (Go.Operand.tmp 96) (Go.Operand.const (Go.Value.int Go.IntKind.i64 1)), type := 0, pos := "ref.go:134", after := #[{ on := 15, ground := Go.Ground.data }], guard := none }) (v := ?_) rfl (by kernel_rfl) (by kernel_rfl) (by kernel_rfl) (fun _ _ _ h => h) (Or.inl ⟨by rfl, ?_⟩) hHeld ?_
 rotate_left 1
 ·(intro w0 hSw); (try dsimp only at hSw); go_simp <;> with_reducible rfl
 (try simp only [Act.put, List.setIfInBounds_toArray, List.set_cons_zero, List.set_cons_succ])
 refine wpAnyH_take (i := 17) (oi := { dst := some 98, op := Go.Op.load 37 (Go.Operand.tmp 97), type := 37, pos := "ref.go:134", after := #[{ on := 16, ground := Go.Ground.data }], guard := none }) (v := ?_) rfl (by kernel_rfl) (by kernel_rfl) (by kernel_rfl) (fun _ _ _ h => h) (Or.inl ⟨by rfl, ?_⟩) hHeld ?_
 rotate_left 1
 ·(intro w0 hSw); (try dsimp only at hSw); have t0 := cell_kept hSw y0; have t1 := cell_kept hSw y1; have t2 := cell_kept hSw y2; have t3 := cell_kept hSw y3; have t4 := cell_kept hSw y4; have t5 := cell_kept hSw y5; have t6 := cell_kept hSw y6; have t7 := cell_kept hSw y7; go_simp <;> with_reducible rfl
 (try simp only [Act.put, List.setIfInBounds_toArray, List.set_cons_zero, List.set_cons_succ])
 refine wpAnyH_ready (rs := [4]) (by kernel_rfl) (by simp) ?_
 refine (AllReadyH.cons (o := { dst := some 85, op := Go.Op.call { callee := Go.Callee.value (Go.Operand.func 16), args := #[Go.Operand.tmp 84], argTypes := #[37] }, type := 9, pos := "ref.go:134", after := #[{ on := 3, ground := Go.Ground.data }], guard := none }) rfl (fun K hK => ?_) AllReadyH.nil)
 rw [if_pos (by rfl)]
 go_simp
 refine (HI.out _ (bt HBx.out (Below.drew (Below.refl _ _)))).mono ?_
 rintro e w1 ⟨rfl, hb⟩
 have HH1 := Lib.hid (bt (Below.drew (Below.refl _ _)) hb)
 clear hb hHeld
 go_wp2_with fail
 refine hK.out _ _ HH1.out (fun hHeld => ?_)
 clear hK K
 (try simp only [Act.put, List.setIfInBounds_toArray, List.set_cons_zero, List.set_cons_succ])
 refine wpAnyH_take (i := 5) (oi := { dst := some 86, op := Go.Op.binOp Go.BinOp.add 9 (Go.Operand.const (Go.Value.string { data := #[40] })) (Go.Operand.tmp 85) 9, type := 9, pos := "ref.go:134", after := #[{ on := 4, ground := Go.Ground.data }], guard := none }) (v := ?_) rfl (by kernel_rfl) (by kernel_rfl) (by kernel_rfl) (fun _ _ _ h => h) (Or.inl ⟨by rfl, ?_⟩) hHeld ?_
 rotate_left 1
 ·(intro w0 hSw); (try dsimp only at hSw); go_simp <;> with_reducible rfl
 (try simp only [Act.put, List.setIfInBounds_toArray, List.set_cons_zero, List.set_cons_succ])
 refine wpAnyH_take (i := 6) (oi := { dst := some 87, op := Go.Op.binOp Go.BinOp.add 9 (Go.Operand.tmp 86) (Go.Operand.const (Go.Value.string { data := #[32] })) 9, type := 9, pos := "ref.go:134", after := #[{ on := 5, ground := Go.Ground.data }], guard := none }) (v := ?_) rfl (by kernel_rfl) (by kernel_rfl) (by kernel_rfl) (fun _ _ _ h => h) (Or.inl ⟨by rfl, ?_⟩) hHeld ?_
 rotate_left 1
 ·(intro w0 hSw); (try dsimp only at hSw); go_simp <;> with_reducible rfl
 (try simp only [Act.put, List.setIfInBounds_toArray, List.set_cons_zero, List.set_cons_succ])
 refine wpAnyH_ready (rs := [7]) (by kernel_rfl) (by simp) ?_
 refine (AllReadyH.cons (o := { dst := some 88, op := Go.Op.call { callee := Go.Callee.value (Go.Operand.func 35), args := #[], argTypes := #[] }, type := 80, pos := "ref.go:134", after := #[{ on := 4, ground := Go.Ground.chain }], guard := none }) rfl (fun K hK => ?_) AllReadyH.nil)
 rw [if_pos (by rfl)]
 go_simp
 refine (refSigns_any _).mono ?_
 rintro e w2 ⟨rfl, hw2⟩
 have HH2 := Lib.hid (show Below (w.alloc (xbox ⟨3, m, vk, vn, vs, tab, col⟩ (some ⟨g, o, none⟩) 2 cap)).heap.size (w.alloc (xbox ⟨3, m, vk, vn, vs, tab, col⟩ (some ⟨g, o, none⟩) 2 cap)) w2 by rw [hw2]; exact bt HH1.out (ba _ _))
 have hcs : w2.cell? ⟨w1.heap.size, m, none⟩ = some (.string BB) := by rw [hw2, HBB.out]; exact sgnCells_at _ hbm
 have hcl : w1.heap.size < w2.heap.size := by rw [hw2, World.size_alloc]; omega
 clear hw2 hHeld
 go_wp2_with fail
 refine hK.out _ _ HH2.out (fun hHeld => ?_)
 clear hK K
 (try simp only [Act.put, List.setIfInBounds_toArray, List.set_cons_zero, List.set_cons_succ])
 refine wpAnyH_take (i := 10) (oi := { dst := some 91, op := Go.Op.indexAddr 80 (Go.Operand.tmp 88) (Go.Operand.tmp 90), type := 0, pos := "ref.go:134", after := #[{ on := 7, ground := Go.Ground.data }, { on := 9, ground := Go.Ground.data }], guard := none }) (v := ?_) rfl (by kernel_rfl) (by kernel_rfl) (by kernel_rfl) (fun _ _ _ h => h) (Or.inl ⟨by rfl, ?_⟩) hHeld ?_
 rotate_left 1
 ·(intro w0 hSw); (try dsimp only at hSw); go_simp <;> with_reducible rfl
 (try simp only [Act.put, List.setIfInBounds_toArray, List.set_cons_zero, List.set_cons_succ])
 refine wpAnyH_ready (rs := [11, 18]) (by kernel_rfl) (by simp) ?_
 refine (AllReadyH.cons (o := { dst := some 92, op := Go.Op.load 9 (Go.Operand.tmp 91), type := 9, pos := "ref.go:134", after := #[{ on := 10, ground := Go.Ground.data }], guard := none }) rfl (fun K hK => ?_) (AllReadyH.cons (o := { dst := some 99, op := Go.Op.call { callee := Go.Callee.value (Go.Operand.func 16), args := #[Go.Operand.tmp 98], argTypes := #[37] }, type := 9, pos := "ref.go:134", after := #[{ on := 17, ground := Go.Ground.data }, { on := 7, ground := Go.Ground.chain }], guard := none }) rfl (fun K hK => ?_) AllReadyH.nil))
 ·rw [if_pos (by rfl)]
  go_simp
  go_wp2_with fail
  refine hK.out _ _ HH2.out (fun hHeld => ?_)
  clear hK K
  (try simp only [Act.put, List.setIfInBounds_toArray, List.set_cons_zero, List.set_cons_succ])
  refine wpAnyH_take (i := 12) (oi := { dst := some 93, op := Go.Op.binOp Go.BinOp.add 9 (Go.Operand.tmp 87) (Go.Operand.tmp 92) 9, type := 9, pos := "ref.go:134", after := #[{ on := 6, ground := Go.Ground.data }, { on := 11, ground := Go.Ground.data }], guard := none }) (v := ?_) rfl (by kernel_rfl) (by kernel_rfl) (by kernel_rfl) (fun _ _ _ h => h) (Or.inl ⟨by rfl, ?_⟩) hHeld ?_
  rotate_left 1
  ·(intro w0 hSw); (try dsimp only at hSw); go_simp <;> with_reducible rfl
  (try simp only [Act.put, List.setIfInBounds_toArray, List.set_cons_zero, List.set_cons_succ])
  refine wpAnyH_take (i := 13) (oi := { dst := some 94, op := Go.Op.binOp Go.BinOp.add 9 (Go.Operand.tmp 93) (Go.Operand.const (Go.Value.string { data := #[32] })) 9, type := 9, pos := "ref.go:134", after := #[{ on := 12, ground := Go.Ground.data }], guard := none }) (v := ?_) rfl (by kernel_rfl) (by kernel_rfl) (by kernel_rfl) (fun _ _ _ h => h) (Or.inl ⟨by rfl, ?_⟩) hHeld ?_
  rotate_left 1
  ·(intro w0 hSw); (try dsimp only at hSw); go_simp <;> with_reducible rfl
  (try simp only [Act.put, List.setIfInBounds_toArray, List.set_cons_zero, List.set_cons_succ])
  refine wpAnyH_ready (rs := [18]) (by kernel_rfl) (by simp) ?_
  refine (AllReadyH.cons (o := { dst := some 99, op := Go.Op.call { callee := Go.Callee.value (Go.Operand.func 16), args := #[Go.Operand.tmp 98], argTypes := #[37] }, type := 9, pos := "ref.go:134", after := #[{ on := 17, ground := Go.Ground.data }, { on := 7, ground := Go.Ground.chain }], guard := none }) rfl (fun K hK => ?_) AllReadyH.nil)
  rw [if_pos (by rfl)]
  go_simp
  refine (HJ.out _ (bt HBx.out HH2.out)).mono ?_
  rintro e w3 ⟨rfl, hb⟩
  have HH3 := Lib.hid (bt HH2.out hb)
  clear hb hHeld
  go_wp2_with fail
  refine hK.out _ _ HH3.out (fun hHeld => ?_)
  clear hK K
  (try simp only [Act.put, List.setIfInBounds_toArray, List.set_cons_zero, List.set_cons_succ])
  refine wpAnyH_take (i := 19) (oi := { dst := some 100, op := Go.Op.binOp Go.BinOp.add 9 (Go.Operand.tmp 94) (Go.Operand.tmp 99) 9, type := 9, pos := "ref.go:134", after := #[{ on := 13, ground := Go.Ground.data }, { on := 18, ground := Go.Ground.data }], guard := none }) (v := ?_) rfl (by kernel_rfl) (by kernel_rfl) (by kernel_rfl) (fun _ _ _ h => h) (Or.inl ⟨by rfl, ?_⟩) hHeld ?_
  rotate_left 1
  ·(intro w0 hSw); (try dsimp only at hSw); go_simp <;> with_reducible rfl
  (try simp only [Act.put, List.setIfInBounds_toArray, List.set_cons_zero, List.set_cons_succ])
  refine wpAnyH_take (i := 20) (oi := { dst := some 101, op := Go.Op.binOp Go.BinOp.add 9 (Go.Operand.tmp 100) (Go.Operand.const (Go.Value.string { data := #[41] })) 9, type := 9, pos := "ref.go:134", after := #[{ on := 19, ground := Go.Ground.data }], guard := none }) (v := ?_) rfl (by kernel_rfl) (by kernel_rfl) (by kernel_rfl) (fun _ _ _ h => h) (Or.inl ⟨by rfl, ?_⟩) hHeld ?_
  rotate_left 1
  ·(intro w0 hSw); (try dsimp only at hSw); go_simp <;> with_reducible rfl
  (try simp only [Act.put, List.setIfInBounds_toArray, List.set_cons_zero, List.set_cons_succ])
  refine wpAnyH_take (i := 21) (oi := { dst := some 2, op := Go.Op.assign (Go.Operand.tmp 101), type := 9, pos := "ref.go:134", after := #[{ on := 20, ground := Go.Ground.data }, { on := 18, ground := Go.Ground.chain }, { on := 0, ground := Go.Ground.phase }, { on := 1, ground := Go.Ground.phase }, { on := 2, ground := Go.Ground.phase }, { on := 3, ground := Go.Ground.phase }, { on := 4, ground := Go.Ground.phase }, { on := 5, ground := Go.Ground.phase }, { on := 6, ground := Go.Ground.phase }, { on := 7, ground := Go.Ground.phase }, { on := 8, ground := Go.Ground.phase }, { on := 9, ground := Go.Ground.phase }, { on := 10, ground := Go.Ground.phase }, { on := 11, ground := Go.Ground.phase }, { on := 12, ground := Go.Ground.phase }, { on := 13, ground := Go.Ground.phase }, { on := 14, ground := Go.Ground.phase }, { on := 15, ground := Go.Ground.phase }, { on := 16, ground := Go.Ground.phase }, { on := 17, ground := Go.Ground.phase }, { on := 18, ground := Go.Ground.phase }, { on := 19, ground := Go.Ground.phase }, { on := 20, ground := Go.Ground.phase }], guard := none }) (v := ?_) rfl (by kernel_rfl) (by kernel_rfl) (by kernel_rfl) (fun _ _ _ h => h) (Or.inl ⟨by rfl, ?_⟩) hHeld ?_
  rotate_left 1
  ·(intro w0 hSw); (try dsimp only at hSw); go_simp <;> with_reducible rfl
  (try simp only [Act.put, List.setIfInBounds_toArray, List.set_cons_zero, List.set_cons_succ])
  refine wpAnyH_done (by kernel_rfl) ?_ _
  refine NoPanic.normal ?_
  clear hHeld
  go_wp2_with fail
  go_ret
  exact ⟨ret_str (by rw [HOp.out, HTB.out, HTB2.out, HBB.out]; apply ByteArray.ext; simp [bstr]), bt HBx.out HH3.out⟩
 ·rw [if_pos (by rfl)]
  go_simp
  refine (HJ.out _ (bt HBx.out HH2.out)).mono ?_
  rintro e w3 ⟨rfl, hb⟩
  have HH3 := Lib.hid (bt HH2.out hb)
  have hcs3 := (hb.cell (p := ⟨w1.heap.size, m, none⟩) hcl).trans hcs
  clear hb hcs
  go_wp2_with fail
  refine hK.out _ _ HH3.out (fun hHeld => ?_)
  clear hK K
  (try simp only [Act.put, List.setIfInBounds_toArray, List.set_cons_zero, List.set_cons_succ])
  refine wpAnyH_ready (rs := [11]) (by kernel_rfl) (by simp) ?_
  refine (AllReadyH.cons (o := { dst := some 92, op := Go.Op.load 9 (Go.Operand.tmp 91), type := 9, pos := "ref.go:134", after := #[{ on := 10, ground := Go.Ground.data }], guard := none }) rfl (fun K hK => ?_) AllReadyH.nil)
  rw [if_pos (by rfl)]
  go_simp
  go_wp2_with fail
  refine hK.out _ _ HH3.out (fun hHeld => ?_)
  clear hK K
  (try simp only [Act.put, List.setIfInBounds_toArray, List.set_cons_zero, List.set_cons_succ])
  refine wpAnyH_take (i := 12) (oi := { dst := some 93, op := Go.Op.binOp Go.BinOp.add 9 (Go.Operand.tmp 87) (Go.Operand.tmp 92) 9, type := 9, pos := "ref.go:134", after := #[{ on := 6, ground := Go.Ground.data }, { on := 11, ground := Go.Ground.data }], guard := none }) (v := ?_) rfl (by kernel_rfl) (by kernel_rfl) (by kernel_rfl) (fun _ _ _ h => h) (Or.inl ⟨by rfl, ?_⟩) hHeld ?_
  rotate_left 1
  ·(intro w0 hSw); (try dsimp only at hSw); go_simp <;> with_reducible rfl
  (try simp only [Act.put, List.setIfInBounds_toArray, List.set_cons_zero, List.set_cons_succ])
  refine wpAnyH_take (i := 13) (oi := { dst := some 94, op := Go.Op.binOp Go.BinOp.add 9 (Go.Operand.tmp 93) (Go.Operand.const (Go.Value.string { data := #[32] })) 9, type := 9, pos := "ref.go:134", after := #[{ on := 12, ground := Go.Ground.data }], guard := none }) (v := ?_) rfl (by kernel_rfl) (by kernel_rfl) (by kernel_rfl) (fun _ _ _ h => h) (Or.inl ⟨by rfl, ?_⟩) hHeld ?_
  rotate_left 1
  ·(intro w0 hSw); (try dsimp only at hSw); go_simp <;> with_reducible rfl
  (try simp only [Act.put, List.setIfInBounds_toArray, List.set_cons_zero, List.set_cons_succ])
  refine wpAnyH_take (i := 19) (oi := { dst := some 100, op := Go.Op.binOp Go.BinOp.add 9 (Go.Operand.tmp 94) (Go.Operand.tmp 99) 9, type := 9, pos := "ref.go:134", after := #[{ on := 13, ground := Go.Ground.data }, { on := 18, ground := Go.Ground.data }], guard := none }) (v := ?_) rfl (by kernel_rfl) (by kernel_rfl) (by kernel_rfl) (fun _ _ _ h => h) (Or.inl ⟨by rfl, ?_⟩) hHeld ?_
  rotate_left 1
  ·(intro w0 hSw); (try dsimp only at hSw); go_simp <;> with_reducible rfl
  (try simp only [Act.put, List.setIfInBounds_toArray, List.set_cons_zero, List.set_cons_succ])
  refine wpAnyH_take (i := 20) (oi := { dst := some 101, op := Go.Op.binOp Go.BinOp.add 9 (Go.Operand.tmp 100) (Go.Operand.const (Go.Value.string { data := #[41] })) 9, type := 9, pos := "ref.go:134", after := #[{ on := 19, ground := Go.Ground.data }], guard := none }) (v := ?_) rfl (by kernel_rfl) (by kernel_rfl) (by kernel_rfl) (fun _ _ _ h => h) (Or.inl ⟨by rfl, ?_⟩) hHeld ?_
  rotate_left 1
  ·(intro w0 hSw); (try dsimp only at hSw); go_simp <;> with_reducible rfl
  (try simp only [Act.put, List.setIfInBounds_toArray, List.set_cons_zero, List.set_cons_succ])
  refine wpAnyH_take (i := 21) (oi := { dst := some 2, op := Go.Op.assign (Go.Operand.tmp 101), type := 9, pos := "ref.go:134", after := #[{ on := 20, ground := Go.Ground.data }, { on := 18, ground := Go.Ground.chain }, { on := 0, ground := Go.Ground.phase }, { on := 1, ground := Go.Ground.phase }, { on := 2, ground := Go.Ground.phase }, { on := 3, ground := Go.Ground.phase }, { on := 4, ground := Go.Ground.phase }, { on := 5, ground := Go.Ground.phase }, { on := 6, ground := Go.Ground.phase }, { on := 7, ground := Go.Ground.phase }, { on := 8, ground := Go.Ground.phase }, { on := 9, ground := Go.Ground.phase }, { on := 10, ground := Go.Ground.phase }, { on := 11, ground := Go.Ground.phase }, { on := 12, ground := Go.Ground.phase }, { on := 13, ground := Go.Ground.phase }, { on := 14, ground := Go.Ground.phase }, { on := 15, ground := Go.Ground.phase }, { on := 16, ground := Go.Ground.phase }, { on := 17, ground := Go.Ground.phase }, { on := 18, ground := Go.Ground.phase }, { on := 19, ground := Go.Ground.phase }, { on := 20, ground := Go.Ground.phase }], guard := none }) (v := ?_) rfl (by kernel_rfl) (by kernel_rfl) (by kernel_rfl) (fun _ _ _ h => h) (Or.inl ⟨by rfl, ?_⟩) hHeld ?_
  rotate_left 1
  ·(intro w0 hSw); (try dsimp only at hSw); go_simp <;> with_reducible rfl
  (try simp only [Act.put, List.setIfInBounds_toArray, List.set_cons_zero, List.set_cons_succ])
  refine wpAnyH_done (by kernel_rfl) ?_ _
  refine NoPanic.normal ?_
  clear hHeld
  go_wp2_with fail
  go_ret
  exact ⟨ret_str (by rw [HOp.out, HTB.out, HTB2.out, HBB.out]; apply ByteArray.ext; simp [bstr]), bt HBx.out HH3.out⟩
end
section
open Go.RowKit Go.Shelf

set_option maxHeartbeats 4000000 in
theorem refShow_n : ∀ (n : Nat) (h : Hd) (l : List Ex), cnt (.mk h l) ≤ n → n ≤ 512 → AllSm (.mk h l) → FitX (.mk h l) → ∀ (w : World) (A : Option Addr) (cap : Nat), XsAt w.heap.size w l A → l.length ≤ cap →
  Calls Tryz.prog 16 #[XV h A l.length cap] w fun e w' => e = .returned (.string (bstr (shwX (.mk h l)))) ∧ Below w.heap.size w w' := by
 intro n
 induction n with
 | zero => intro h l hc; have := cnt_pos (.mk h l); omega
 | succ n ih =>
  intro h l hc hn hsm hf w A cap hX hcap
  have hb0 := ba w (xbox h A l.length cap)
  rw [AllSm] at hsm
  rw [FitX] at hf
  rw [cnt_mk] at hc
  have kid : ∀ (x : Ex), AllSm x → FitX x → cnt x ≤ n → ∀ (A' : Option Addr) (cap' : Nat), x.kids.length ≤ cap' → XsAt w.heap.size w x.kids A' → RShowsAt w x A' cap' := by
   intro x h1 h2 h3 A' cap' h4 h5 w1 hb1
   obtain ⟨hx, lx⟩ := x
   exact ih hx lx h3 (by omega) h1 h2 w1 A' cap' (XsAt.next h5 hb1) h4
  obtain ⟨k, m, vk, vn, vs, tab, col⟩ := h
  have hst := hsm.1.t
  have hsc := hsm.1.c
  have hsv := hsm.1.v
  simp only at hst hsc hsv
  have HB0 := Lib.hid hb0
  have hfb := hf.1
  unfold fitsB at hfb
  by_cases h1 : k = 1
  ·subst h1
   have HS := Lib.hid (show shwX (.mk ⟨1, m, vk, vn, vs, tab, col⟩ l) = showL vk vn vs by rw [shwX]; rfl)
   clear hfb hf hsm kid hX ih hb0
   go_enter Tryz.func16, Tryz.ntmps16
   go_wp2_with fail
   refine (refShow_any vk vn vs _ (by omega)).mono ?_
   rintro e w1 ⟨rfl, hb⟩
   have HB := Lib.hid (bt HB0.out hb)
   clear hb
   go_wp2_with fail
   go_ret
   exact ⟨ret_str (by rw [HS.out]), HB.out⟩
  ·rw [if_neg h1] at hfb
   by_cases h2 : k = 2
   ·subst h2
    have HS := Lib.hid (show shwX (.mk ⟨2, m, vk, vn, vs, tab, col⟩ l) = colX tab col by rw [shwX]; rfl)
    clear hfb hf hsm kid hX ih hb0
    cases hte : tab.toList.isEmpty
    all_goals
     have HT := Lib.hid hte
     have hne : (tab.toList != []) = !tab.toList.isEmpty := by cases tab.toList <;> rfl
     rw [hte] at hne
     go_enter Tryz.func16, Tryz.ntmps16
     go_wp2
     go_ret
     exact ⟨ret_str (by rw [HS.out]; apply ByteArray.ext; simp [bstr, colX, HT.out]), HB0.out⟩
   ·rw [if_neg h2] at hfb
    by_cases h4 : k = 4
    ·subst h4
     have hfb : (aggB m l.length && namelessB ⟨4, m, vk, vn, vs, tab, col⟩ && valuelessB ⟨4, m, vk, vn, vs, tab, col⟩) = true := hfb
     have hag : aggB m l.length = true := by
      cases h : aggB m l.length with
      | true => rfl
      | false => rw [h] at hfb; simp at hfb
     have HS : shwX (.mk ⟨4, m, vk, vn, vs, tab, col⟩ l) = aggX m ((shwXs l).getD 0 []) := by rw [shwX]; rfl
     rw [HS]
     unfold aggB at hag
     by_cases hm : m = 1
     ·subst hm; exact rshowAgg1_any _ _ _ _ _ _ _ _ _ _
     ·rw [if_neg hm] at hag
      simp only [Bool.and_eq_true, decide_eq_true_eq, beq_iff_eq] at hag
      obtain ⟨⟨g1, g2⟩, g3⟩ := hag
      obtain ⟨x, rfl⟩ := List.length_eq_one_iff.1 (show l.length = 1 by omega)
      obtain ⟨g, o, A', cap', rfl, hg, hc', hl', hx'⟩ := XsAt.one hX
      have hcx : cnt x ≤ n := by simp only [cntL] at hc; omega
      rw [AllSmL] at hsm
      have hf2 := hf.2
      rw [FitXs] at hf2
      obtain ⟨m', rfl⟩ : ∃ m' : Nat, m = m' := ⟨m.toNat, by omega⟩
      have := rshowAgg_of m' vk vn vs tab col x g o cap A' cap' w hg hc' (kid x hsm.2.1 hf2.1 hcx A' cap' hl' hx') (by have := shwX_len x hsm.2.1; omega) (by omega)
      simpa [shwXs] using this
    ·by_cases h3 : k = 3
     ·subst h3
      rw [if_pos rfl] at hfb
      simp only [Bool.and_eq_true, decide_eq_true_eq, beq_iff_eq] at hfb
      obtain ⟨⟨⟨ha, hla⟩, _⟩, _⟩ := hfb
      have HS : shwX (.mk ⟨3, m, vk, vn, vs, tab, col⟩ l) = [40] ++ opX m ((shwXs l).getD 0 []) ((shwXs l).getD 1 []) ++ [41] := by rw [shwX]; rfl
      rw [HS]
      unfold arI at ha hla
      by_cases hu : m = 3 ∨ m = 15 ∨ m = 16 ∨ m = 17
      ·rw [if_pos hu] at hla
       obtain ⟨x, rfl⟩ := List.length_eq_one_iff.1 (show l.length = 1 by omega)
       obtain ⟨g, o, A', cap', rfl, hg, hc', hl', hx'⟩ := XsAt.one hX
       have hcx : cnt x ≤ n := by simp only [cntL] at hc; omega
       rw [AllSmL] at hsm
       have hf2 := hf.2
       rw [FitXs] at hf2
       have := rshowOp1_of m vk vn vs tab col x g o cap A' cap' w hg hc' (kid x hsm.2.1 hf2.1 hcx A' cap' hl' hx') (by have := shwX_len x hsm.2.1; omega) hu []
       simpa [shwXs] using this
      ·rw [if_neg hu] at ha hla
       by_cases hv : 1 ≤ m ∧ m ≤ 17
       ·rw [if_pos hv] at hla
        obtain ⟨x, y, rfl⟩ := len2 (show l.length = 2 by omega)
        obtain ⟨g, o, A', cap', rfl, hg, hc', hl', hx'⟩ := XsAt.one hX
        obtain ⟨B', cap2, hc2, hl2, hx2⟩ := XsAt.two hX
        have hcx : cnt x + cnt y ≤ n := by simp only [cntL] at hc; omega
        have hpx := cnt_pos x
        have hpy := cnt_pos y
        rw [AllSmL, AllSmL] at hsm
        have hf2 := hf.2
        rw [FitXs, FitXs] at hf2
        obtain ⟨m', rfl⟩ : ∃ m' : Nat, m = m' := ⟨m.toNat, by omega⟩
        have := rshowOp2_of m' vk vn vs tab col x y g o cap A' B' cap' cap2 w hg hc' hc2 (kid x hsm.2.1 hf2.1 (by omega) A' cap' hl' hx') (kid y hsm.2.2.1 hf2.2.1 (by omega) B' cap2 hl2 hx2) (by have := shwX_len x hsm.2.1; have := shwX_len y hsm.2.2.1; omega) (by omega)
        simpa [shwXs] using this
       ·rw [if_neg hv] at ha; omega
     ·rw [if_neg h3, if_neg h4] at hfb; cases hfb
end
end Go.Proofs.YtfjimoccliejdaaGreatDoor
end
section
namespace Go.Proofs.YtfjimoccliejdaaGreatDoor
open Go.RowKit Go.Shelf

theorem run_neV (k n : Int) (s : ByteArray) (k' n' : Int) (s' : ByteArray) (w : World) :
  (binOp .neq 34 (VV k n s) (VV k' n' s')).run Tryz.prog w = .ok (.bool (!eqV k n s k' n' s')) w := by
 have u3 := Tryz.underlying3
 have a3 := Tryz.isAgg3
 have z3 := Tryz.sizeOf3
 have u9 := Tryz.underlying9
 have a9 := Tryz.isAgg9
 have z9 := Tryz.sizeOf9
 have hS : Tryz.prog.underlying 34 = some (.struct (Tryz.prog.fieldsOf 34)) := by kernel_rfl
 have hp : Tryz.prog.stoodInHeld 34 = false := by kernel_rfl
 rw [run_neq_struct, show (10000 : Nat) = 9999 + 1 from rfl, run_equalIn_agg w 9999 34 _ _ hS hp]
 simp only [Program.fieldsOf, Tryz.underlying34]
 go_simp
 unfold eqV
 by_cases h1 : k = k' <;> by_cases h2 : n = n' <;> by_cases h3 : s.toList = s'.toList <;> simp [h1, h2, h3]
def hdEq (h h' : Hd) : Bool := h.k == h'.k && h.n == h'.n && eqV h.vk h.vn h.vs h'.vk h'.vn h'.vs && h.tab.toList == h'.tab.toList && h.col.toList == h'.col.toList
mutual
def sameX : Ex → Ex → Bool
 | .mk h l, .mk h' l' => hdEq h h' && sameXs l l'
def sameXs : List Ex → List Ex → Bool
 | [], [] => true
 | x :: r, y :: r' => sameX x y && sameXs r r'
 | [], _ :: _ => false
 | _ :: _, [] => false
end
theorem sameX_mk (h h' : Hd) (l l' : List Ex) : sameX (.mk h l) (.mk h' l') = (hdEq h h' && sameXs l l') := by rw [sameX]
theorem sameXs_len : ∀ (l l' : List Ex), l.length ≠ l'.length → sameXs l l' = false
 | [], [], h => absurd rfl h
 | [], _ :: _, _ => by rw [sameXs]
 | _ :: _, [], _ => by rw [sameXs]
 | x :: r, y :: r', h => by
  rw [sameXs, sameXs_len r r' (by simpa using h)]
  simp
theorem sameXs_take : ∀ (l l' : List Ex) (k : Nat) (x y : Ex), l[k]? = some x → l'[k]? = some y → sameXs (l.take (k + 1)) (l'.take (k + 1)) = (sameXs (l.take k) (l'.take k) && sameX x y)
 | [], _, k, x, y, h, _ => by simp at h
 | _ :: _, [], k, x, y, _, h => by simp at h
 | a :: r, b :: r', 0, x, y, h, h' => by
  obtain rfl : a = x := by simpa using h
  obtain rfl : b = y := by simpa using h'
  simp [sameXs]
 | a :: r, b :: r', k + 1, x, y, h, h' => by
  have := sameXs_take r r' k x y (by simpa using h) (by simpa using h')
  rw [List.take_succ_cons, List.take_succ_cons, List.take_succ_cons, List.take_succ_cons, sameXs, sameXs, this, Bool.and_assoc]
theorem sameXs_no : ∀ (l l' : List Ex) (k : Nat), sameXs (l.take k) (l'.take k) = false → l.length = l'.length → sameXs l l' = false
 | [], [], k, h, _ => by simp [sameXs] at h
 | [], _ :: _, _, _, h => by simp at h
 | _ :: _, [], _, _, h => by simp at h
 | a :: r, b :: r', 0, h, _ => by simp [sameXs] at h
 | a :: r, b :: r', k + 1, h, hl => by
  rw [List.take_succ_cons, List.take_succ_cons, sameXs] at h
  rw [sameXs]
  cases hs : sameX a b with
  | false => rfl
  | true =>
   rw [hs, Bool.true_and] at h
   rw [Bool.true_and]
   exact sameXs_no r r' k h (by simpa using hl)
def SamesAt (f : FuncId) (w : World) (x y : Ex) : Prop :=
 ∀ (w1 : World) (A : Option Addr) (cap : Nat) (B : Option Addr) (cap' : Nat), Below w.heap.size w w1 → XsAt w1.heap.size w1 x.kids A → x.kids.length ≤ cap → XsAt w1.heap.size w1 y.kids B → y.kids.length ≤ cap' →
  Calls Tryz.prog f #[XV x.hd A x.kids.length cap, XV y.hd B y.kids.length cap'] w1 fun e w' => e = .returned (.bool (sameX x y)) ∧ Below w1.heap.size w1 w'
set_option maxHeartbeats 4000000 in
theorem equalFunc_of (l l' : List Ex) (A : Option Addr) (cap : Nat) (B : Option Addr) (cap' : Nat) (w : World) (hX : XsAt w.heap.size w l A) (hY : XsAt w.heap.size w l' B) (hl : l.length ≤ 1000000)
  (ih : ∀ (i : Nat) x y, l[i]? = some x → l'[i]? = some y → SamesAt 72 w x y) :
  Calls Tryz.prog 73 #[.slice A l.length cap, .slice B l'.length cap', .func (.func 72) #[] #[]] w fun e w' => e = .returned (.bool (sameXs l l')) ∧ Below w.heap.size w w' := by
 have HX := Lib.hid hX
 have HY := Lib.hid hY
 have HI := Lib.hid ih
 clear hX hY ih
 by_cases hll : l.length = l'.length
 ·have HL := Lib.hid hll
  rw [← hll]
  clear hll
  go_enter Tryz.func73, Tryz.ntmps73
  go_wp2_with fail
  go_loopw [17, 7] (fun i _ W => ∃ k : Nat, k ≤ l.length ∧ i = .int .i64 k ∧ Hid (sameXs (l.take k) (l'.take k) = true) ∧ Hid (Below w.heap.size w W)) (fun i _ _ => l.length - (intOf i).toNat)
  case atStart => exact ⟨0, Nat.zero_le _, rfl, Lib.hid (by simp [sameXs]), Lib.hid (Below.refl _ _)⟩
  case round =>
   obtain ⟨k, hk, rfl, HS, HW⟩ := hrel
   by_cases hkl : k < l.length
   ·obtain ⟨x, hx⟩ : ∃ x, l[k]? = some x := ⟨_, List.getElem?_eq_getElem hkl⟩
    obtain ⟨y, hy⟩ : ∃ y, l'[k]? = some y := ⟨_, List.getElem?_eq_getElem (by have := HL.out; omega)⟩
    obtain ⟨hx1, lx⟩ := x
    obtain ⟨hy1, ly⟩ := y
    obtain ⟨g, o, A1, c1', rfl, hg, hXc, hlx, hx2⟩ := HX.out.at hx
    obtain ⟨g', o', B1, c2', rfl, hg', hYc, hly, hy2⟩ := HY.out.at hy
    have HT := Lib.hid (sameXs_take l l' k _ _ hx hy)
    have HNo := Lib.hid (fun hf => sameXs_no l l' (k + 1) hf HL.out)
    obtain ⟨a0, a1, a2, a3, a4, a5, a6, a7⟩ := hXc.of (HW.out.block g hg)
    obtain ⟨b0, b1, b2, b3, b4, b5, b6, b7⟩ := hYc.of (HW.out.block g' hg')
    have hgr : g < wr.heap.size := Nat.lt_of_lt_of_le hg HW.out.size
    have hgr' : g' < wr.heap.size := Nat.lt_of_lt_of_le hg' HW.out.size
    have hba := bt HW.out (ba2 wr (xbox hx1 A1 lx.length c1') (xbox hy1 B1 ly.length c2'))
    have HC := Lib.hid (HI.out k _ _ hx hy _ A1 c1' B1 c2' hba (XsAt.next hx2 hba) hlx (XsAt.next hy2 hba) hly)
    have HBa := Lib.hid hba
    obtain ⟨bs, hbs⟩ : ∃ b, sameX (.mk hx1 lx) (.mk hy1 ly) = b := ⟨_, rfl⟩
    rw [hbs] at HC HT
    clear hXc hYc hx hy hx2 hy2 hba hbs
    cases bs
    ·go_wp2_with fail
     refine HC.out.mono ?_
     rintro e w3 ⟨rfl, hb⟩
     go_wp2_with fail
     go_ret
     exact ⟨ret_bool (HNo.out (by rw [HT.out, Bool.and_false])).symm, bt HBa.out hb⟩
    ·go_wp2_with fail
     refine HC.out.mono ?_
     rintro e w3 ⟨rfl, hb⟩
     have HB3 := Lib.hid (bt HBa.out hb)
     clear hb
     go_wp2_with fail
     go_roundw
     case rel =>
      first
       | exact ⟨k + 1, by omega, by go_num, Lib.hid (by rw [HT.out, HS.out]; rfl), HB3⟩
       | ((repeat apply Exists.intro); exact ⟨⟨k + 1, by omega, by go_num, Lib.hid (by rw [HT.out, HS.out]; rfl), HB3⟩, rfl⟩)
     case measure => simp [intOf]; omega
   ·have hkk : k = l.length := by omega
    have HE := Lib.hid (show sameXs l l' = true by have := HS.out; rwa [hkk, List.take_length, HL.out, List.take_length] at this)
    go_wp2_with fail
    go_ret
    exact ⟨ret_bool HE.out.symm, HW.out⟩
 ·have HL := Lib.hid (sameXs_len l l' hll)
  have hne : ¬ (l.length : Int) = (l'.length : Int) := by omega
  go_enter Tryz.func73, Tryz.ntmps73
  go_wp2_with fail
  go_ret
  exact ⟨ret_bool HL.out.symm, Below.refl _ _⟩
set_option maxRecDepth 100000 in
set_option maxHeartbeats 8000000 in
theorem same_n : ∀ (N : Nat) (h h' : Hd) (l l' : List Ex), cnt (.mk h l) ≤ N → N ≤ 1000000 → cnt (.mk h' l') ≤ 1000000 → ∀ (w : World) (A : Option Addr) (cap : Nat) (B : Option Addr) (cap' : Nat), XsAt w.heap.size w l A → l.length ≤ cap → XsAt w.heap.size w l' B → l'.length ≤ cap' →
  Calls Tryz.prog 72 #[XV h A l.length cap, XV h' B l'.length cap'] w fun e w' => e = .returned (.bool (sameX (.mk h l) (.mk h' l'))) ∧ Below w.heap.size w w' := by
 intro N
 induction N with
 | zero => intro h h' l l' hc; have := cnt_pos (.mk h l); omega
 | succ N ih =>
  intro h h' l l' hc hN hc' w A cap B cap' hX hcap hY hcap'
  have hba := ba2 w (xbox h A l.length cap) (xbox h' B l'.length cap')
  have hlen := cntL_len l
  have hlen' := cntL_len l'
  rw [cnt_mk] at hc hc'
  have HE := Lib.hid (equalFunc_of l l' A cap B cap' ((w.alloc (xbox h A l.length cap)).alloc (xbox h' B l'.length cap')) (hX.next hba) (hY.next hba) (by omega) (fun i x y hx hy => by
   obtain ⟨hx1, lx⟩ := x
   obtain ⟨hy1, ly⟩ := y
   have h1 := cntL_mem hx
   have h2 := cntL_mem hy
   exact fun w1 A1 c1 B1 c2 _ hx2 hlx hy2 hly => ih hx1 hy1 lx ly (by omega) (by omega) (by omega) w1 A1 c1 B1 c2 hx2 hlx hy2 hly))
  have HBa := Lib.hid hba
  have HS := Lib.hid (sameX_mk h h' l l')
  obtain ⟨bb, hbb⟩ : ∃ b, sameXs l l' = b := ⟨_, rfl⟩
  rw [hbb] at HE HS
  clear hX hY ih hba hbb
  obtain ⟨k, n, vk, vn, vs, tab, col⟩ := h
  obtain ⟨k', n', vk', vn', vs', tab', col'⟩ := h'
  have hq := fun w1 => run_eqV vk vn vs vk' vn' vs' w1
  obtain ⟨b3, hb3⟩ : ∃ b, eqV vk vn vs vk' vn' vs' = b := ⟨_, rfl⟩
  obtain ⟨b1, hb1⟩ : ∃ b, (k == k') = b := ⟨_, rfl⟩
  obtain ⟨b2, hb2⟩ : ∃ b, (n == n') = b := ⟨_, rfl⟩
  obtain ⟨b4, hb4⟩ : ∃ b, (tab.toList == tab'.toList) = b := ⟨_, rfl⟩
  obtain ⟨b5, hb5⟩ : ∃ b, (col.toList == col'.toList) = b := ⟨_, rfl⟩
  rw [hb3] at hq
  have HS2 := Lib.hid (show sameX (.mk ⟨k, n, vk, vn, vs, tab, col⟩ l) (.mk ⟨k', n', vk', vn', vs', tab', col'⟩ l') = (b1 && b2 && b3 && b4 && b5 && bb) by rw [HS.out, hdEq]; simp only [hb1, hb2, hb3, hb4, hb5])
  clear HS hb3
  rcases (show b1 = false ∨ (b1 = true ∧ b2 = false) ∨ (b1 = true ∧ b2 = true ∧ b3 = false) ∨ (b1 = true ∧ b2 = true ∧ b3 = true ∧ b4 = false) ∨ (b1 = true ∧ b2 = true ∧ b3 = true ∧ b4 = true ∧ b5 = false) ∨ (b1 = true ∧ b2 = true ∧ b3 = true ∧ b4 = true ∧ b5 = true) by cases b1 <;> cases b2 <;> cases b3 <;> cases b4 <;> cases b5 <;> simp) with hz | ⟨hz, hz2⟩ | ⟨hz, hz2, hz3⟩ | ⟨hz, hz2, hz3, hz4⟩ | ⟨hz, hz2, hz3, hz4, hz5⟩ | ⟨hz, hz2, hz3, hz4, hz5⟩
  all_goals
   subst hz
   try subst hz2
   try subst hz3
   try subst hz4
   try subst hz5
   go_enter Tryz.func72, Tryz.ntmps72
   go_wp2_with (go_at_call 73; refine HE.out.mono ?_; rintro e w1 ⟨rfl, hb⟩)
   go_ret
   first
    | exact ⟨ret_bool (by rw [HS2.out]; simp), HBa.out⟩
    | exact ⟨ret_bool (by rw [HS2.out]; simp), bt HBa.out hb⟩
theorem xsame_any (h h' : Hd) (l l' : List Ex) (w : World) (A : Option Addr) (cap : Nat) (B : Option Addr) (cap' : Nat) (hX : XsAt w.heap.size w l A) (hcap : l.length ≤ cap) (hY : XsAt w.heap.size w l' B) (hcap' : l'.length ≤ cap') (hc : cnt (.mk h l) ≤ 1000000) (hc' : cnt (.mk h' l') ≤ 1000000) :
  Calls Tryz.prog 72 #[XV h A l.length cap, XV h' B l'.length cap'] w fun e w' => e = .returned (.bool (sameX (.mk h l) (.mk h' l'))) ∧ Below w.heap.size w w' :=
 same_n _ h h' l l' hc (Nat.le_refl _) hc' w A cap B cap' hX hcap hY hcap'
set_option maxRecDepth 100000 in
set_option maxHeartbeats 16000000 in
theorem refSame_n : ∀ (N : Nat) (h h' : Hd) (l l' : List Ex), cnt (.mk h l) ≤ N → N ≤ 1000000 → cnt (.mk h' l') ≤ 1000000 → ∀ (w : World) (A : Option Addr) (cap : Nat) (B : Option Addr) (cap' : Nat), XsAt w.heap.size w l A → l.length ≤ cap → XsAt w.heap.size w l' B → l'.length ≤ cap' →
    Calls Tryz.prog 13 #[XV h A l.length cap, XV h' B l'.length cap'] w fun e w' => e = .returned (.bool (sameX (.mk h l) (.mk h' l'))) ∧ Below w.heap.size w w' := by
  intro N
  induction N with
  | zero => intro h h' l l' hc; have := cnt_pos (.mk h l); omega
  | succ N ih =>
    intro h h' l l' hc hN hc' w A cap B cap' hX hcap hY hcap'
    have hba := ba2 w (xbox h A l.length cap) (xbox h' B l'.length cap')
    have HX0 := Lib.hid (((ba (w.alloc (xbox h A l.length cap)) (xbox h' B l'.length cap')).block w.heap.size (by rw [World.size_alloc]; omega)).trans (MapKept.heap_alloc w (xbox h A l.length cap)).1)
    have HX1 := Lib.hid ((MapKept.heap_alloc (w.alloc (xbox h A l.length cap)) (xbox h' B l'.length cap')).1)
    rw [World.size_alloc] at HX1
    have hlen := cntL_len l
    have hlen' := cntL_len l'
    rw [cnt_mk] at hc hc'
    have HI := Lib.hid (show ∀ (i : Nat) x y, l[i]? = some x → l'[i]? = some y → SamesAt 13 w x y from fun i x y hx hy => by
      obtain ⟨hx1, lx⟩ := x
      obtain ⟨hy1, ly⟩ := y
      have h1 := cntL_mem hx
      have h2 := cntL_mem hy
      exact fun w1 A1 c1 B1 c2 _ hx2 hlx hy2 hly => ih hx1 hy1 lx ly (by omega) (by omega) (by omega) w1 A1 c1 B1 c2 hx2 hlx hy2 hly)
    have HBa := Lib.hid hba
    have HXl := Lib.hid hX
    have HYl := Lib.hid hY
    have HS := Lib.hid (sameX_mk h h' l l')
    have hl6 : l.length ≤ 1000000 := by omega
    have hl7 : l'.length ≤ 1000000 := by omega
    clear hX hY ih hba
    obtain ⟨k, n, vk, vn, vs, tab, col⟩ := h
    obtain ⟨k', n', vk', vn', vs', tab', col'⟩ := h'
    have hq := fun w1 => run_neV vk vn vs vk' vn' vs' w1
    obtain ⟨b3, hb3⟩ : ∃ b, eqV vk vn vs vk' vn' vs' = b := ⟨_, rfl⟩
    obtain ⟨b1, hb1⟩ : ∃ b, (k == k') = b := ⟨_, rfl⟩
    obtain ⟨b2, hb2⟩ : ∃ b, (n == n') = b := ⟨_, rfl⟩
    obtain ⟨b4, hb4⟩ : ∃ b, (tab.toList == tab'.toList) = b := ⟨_, rfl⟩
    obtain ⟨b5, hb5⟩ : ∃ b, (col.toList == col'.toList) = b := ⟨_, rfl⟩
    rw [hb3] at hq
    have HS2 := Lib.hid (show sameX (.mk ⟨k, n, vk, vn, vs, tab, col⟩ l) (.mk ⟨k', n', vk', vn', vs', tab', col'⟩ l') = (b1 && b2 && b3 && b4 && b5 && sameXs l l') by rw [HS.out, hdEq]; simp only [hb1, hb2, hb3, hb4, hb5])
    clear HS hb3
    have hk1 : (k != k') = !b1 := by rw [bne, hb1]
    have hk2 : (n != n') = !b2 := by rw [bne, hb2]
    have hk4 : (tab.toList != tab'.toList) = !b4 := by rw [bne, hb4]
    have hk5 : (col.toList != col'.toList) = !b5 := by rw [bne, hb5]
    by_cases hll : l.length = l'.length
    · have HL := Lib.hid hll
      rw [← hll] at HX0 HX1 HBa ⊢
      clear hll
      rcases (show b1 = false ∨ (b1 = true ∧ b2 = false) ∨ (b1 = true ∧ b2 = true ∧ b3 = false) ∨ (b1 = true ∧ b2 = true ∧ b3 = true ∧ b4 = false) ∨ (b1 = true ∧ b2 = true ∧ b3 = true ∧ b4 = true ∧ b5 = false) ∨ (b1 = true ∧ b2 = true ∧ b3 = true ∧ b4 = true ∧ b5 = true) by cases b1 <;> cases b2 <;> cases b3 <;> cases b4 <;> cases b5 <;> simp) with hz | ⟨hz, hz2⟩ | ⟨hz, hz2, hz3⟩ | ⟨hz, hz2, hz3, hz4⟩ | ⟨hz, hz2, hz3, hz4, hz5⟩ | ⟨hz, hz2, hz3, hz4, hz5⟩
      all_goals
        subst hz
        try subst hz2
        try subst hz3
        try subst hz4
        try subst hz5
        go_enter Tryz.func13, Tryz.ntmps13
        go_wp2_with fail
      iterate 5
        (go_ret
         exact ⟨ret_bool (by rw [HS2.out]; simp), HBa.out⟩)
      go_loopw [5] (fun i W => ∃ j : Nat, j ≤ l.length ∧ i = .int .i64 j ∧ Hid (sameXs (l.take j) (l'.take j) = true) ∧ Hid (Below ((w.alloc (xbox ⟨k, n, vk, vn, vs, tab, col⟩ A l.length cap)).alloc (xbox ⟨k', n', vk', vn', vs', tab', col'⟩ B l.length cap')).heap.size ((w.alloc (xbox ⟨k, n, vk, vn, vs, tab, col⟩ A l.length cap)).alloc (xbox ⟨k', n', vk', vn', vs', tab', col'⟩ B l.length cap')) W)) (fun i _ => l.length - (intOf i).toNat)
      case atStart => exact ⟨0, Nat.zero_le _, rfl, Lib.hid (by simp [sameXs]), Lib.hid (Below.refl _ _)⟩
      case round =>
        obtain ⟨j, hj, rfl, HSm, HW⟩ := hrel
        obtain ⟨⟨_, _, _, _, _, _, _, p7⟩, _⟩ := cell8 ((HW.out.block w.heap.size (by rw [World.size_alloc, World.size_alloc]; omega)).trans HX0.out)
        obtain ⟨⟨_, _, _, _, _, _, _, q7⟩, _⟩ := cell8 ((HW.out.block (w.heap.size + 1) (by rw [World.size_alloc, World.size_alloc]; omega)).trans HX1.out)
        have hbw := bt HBa.out HW.out
        by_cases hkl : j < l.length
        · obtain ⟨x, hx⟩ : ∃ x, l[j]? = some x := ⟨_, List.getElem?_eq_getElem hkl⟩
          obtain ⟨y, hy⟩ : ∃ y, l'[j]? = some y := ⟨_, List.getElem?_eq_getElem (by have := HL.out; omega)⟩
          obtain ⟨⟨k1, n1, vk1, vn1, vs1, tab1, col1⟩, lx⟩ := x
          obtain ⟨⟨k2, n2, vk2, vn2, vs2, tab2, col2⟩, ly⟩ := y
          obtain ⟨g, o, A1, c1', rfl, hg, hXc, hlx, hx2⟩ := HXl.out.at hx
          obtain ⟨g', o', B1, c2', rfl, hg', hYc, hly, hy2⟩ := HYl.out.at hy
          have HT := Lib.hid (sameXs_take l l' j _ _ hx hy)
          have HNo := Lib.hid (fun hf => sameXs_no l l' (j + 1) hf HL.out)
          obtain ⟨a0, a1, a2, a3, a4, a5, a6, a7⟩ := hXc.of (hbw.block g hg)
          obtain ⟨d0, d1, d2, d3, d4, d5, d6, d7⟩ := hYc.of (hbw.block g' hg')
          have hgr : g < wr.heap.size := Nat.lt_of_lt_of_le hg hbw.size
          have hgr' : g' < wr.heap.size := Nat.lt_of_lt_of_le hg' hbw.size
          have hs1 : w.heap.size < wr.heap.size := by have := HW.out.size; rw [World.size_alloc, World.size_alloc] at this; omega
          have hs2 : w.heap.size + 1 < wr.heap.size := by have := HW.out.size; rw [World.size_alloc, World.size_alloc] at this; omega
          obtain ⟨bs, hbs⟩ : ∃ b, sameX (.mk ⟨k1, n1, vk1, vn1, vs1, tab1, col1⟩ lx) (.mk ⟨k2, n2, vk2, vn2, vs2, tab2, col2⟩ ly) = b := ⟨_, rfl⟩
          have HC := Lib.hid (show ∀ w1, Below wr.heap.size wr w1 → Calls Tryz.prog 13 #[XV ⟨k1, n1, vk1, vn1, vs1, tab1, col1⟩ A1 lx.length c1', XV ⟨k2, n2, vk2, vn2, vs2, tab2, col2⟩ B1 ly.length c2'] w1 fun e w' => e = .returned (.bool bs) ∧ Below w1.heap.size w1 w' from fun w1 hb1 => by
            rw [← hbs]
            exact HI.out j _ _ hx hy w1 A1 c1' B1 c2' (bt hbw hb1) (XsAt.next hx2 (bt hbw hb1)) hlx (XsAt.next hy2 (bt hbw hb1)) hly)
          rw [hbs] at HT
          have HBw := Lib.hid hbw
          have hBd := Below.drew (Below.refl wr.heap.size wr)
          simp only at a0 a1 a2 a3 a4 a5 a6 a7 d0 d1 d2 d3 d4 d5 d6 d7
          clear hXc hYc hx hy hx2 hy2 hbw hbs
          cases bs
          all_goals
            go_wp2_with fail
            go_region_held3 (fun w' => Below wr.heap.size wr w' ∧ w'.cell? ⟨w.heap.size, 7, none⟩ = some (.slice (some ⟨g, o, none⟩) l.length cap) ∧ w'.cell? ⟨w.heap.size + 1, 7, none⟩ = some (.slice (some ⟨g', o', none⟩) l.length cap') ∧
                w'.cell? ⟨g, o + j * 8, none⟩ = some (.int .i64 k1) ∧ w'.cell? ⟨g, o + j * 8 + 1, none⟩ = some (.int .i64 n1) ∧ w'.cell? ⟨g, o + j * 8 + 2, none⟩ = some (.int .i64 vk1) ∧ w'.cell? ⟨g, o + j * 8 + 3, none⟩ = some (.int .i64 vn1) ∧
                w'.cell? ⟨g, o + j * 8 + 4, none⟩ = some (.string vs1) ∧ w'.cell? ⟨g, o + j * 8 + 5, none⟩ = some (.string tab1) ∧ w'.cell? ⟨g, o + j * 8 + 6, none⟩ = some (.string col1) ∧ w'.cell? ⟨g, o + j * 8 + 7, none⟩ = some (.slice A1 lx.length c1') ∧
                w'.cell? ⟨g', o' + j * 8, none⟩ = some (.int .i64 k2) ∧ w'.cell? ⟨g', o' + j * 8 + 1, none⟩ = some (.int .i64 n2) ∧ w'.cell? ⟨g', o' + j * 8 + 2, none⟩ = some (.int .i64 vk2) ∧ w'.cell? ⟨g', o' + j * 8 + 3, none⟩ = some (.int .i64 vn2) ∧
                w'.cell? ⟨g', o' + j * 8 + 4, none⟩ = some (.string vs2) ∧ w'.cell? ⟨g', o' + j * 8 + 5, none⟩ = some (.string tab2) ∧ w'.cell? ⟨g', o' + j * 8 + 6, none⟩ = some (.string col2) ∧ w'.cell? ⟨g', o' + j * 8 + 7, none⟩ = some (.slice B1 ly.length c2'))
              (first
                | exact ⟨hBd, p7, q7, a0, a1, a2, a3, a4, a5, a6, a7, d0, d1, d2, d3, d4, d5, d6, d7⟩
                | ((try go_split_ands)
                   refine ⟨?_, ?_, ?_, ?_, ?_, ?_, ?_, ?_, ?_, ?_, ?_, ?_, ?_, ?_, ?_, ?_, ?_, ?_, ?_⟩
                   all_goals first | assumption | (exact Below.drew (by assumption)) | (exact bt (by assumption) hb) | (exact cell_kept hb (by assumption)) | go_keep))
              (first
                | (go_at_call 13; refine (HC.out _ (by first | assumption | exact Below.drew (by assumption))).mono ?_; rintro e w' ⟨rfl, hb⟩))
            rename_i hold
            have HHo := Lib.hid hold.1
            clear hold
          · go_wp2_with fail
            go_ret
            exact ⟨ret_bool (by rw [HS2.out, HNo.out (by rw [HT.out, Bool.and_false])]; simp), bt HBw.out HHo.out⟩
          · go_wp2_with fail
            go_roundw
            case rel => exact ⟨j + 1, by omega, by go_num, Lib.hid (by rw [HT.out, HSm.out]; rfl), Lib.hid (HW.out.trans (HHo.out.mono HW.out.size))⟩
            case measure => simp [intOf]; omega
        · have hkk : j = l.length := by omega
          have HE := Lib.hid (show sameXs l l' = true by have := HSm.out; rwa [hkk, List.take_length, HL.out, List.take_length] at this)
          have HBw := Lib.hid hbw
          clear hbw
          go_wp2_with fail
          go_ret
          exact ⟨ret_bool (by rw [HS2.out, HE.out]; rfl), HBw.out⟩
    · have hle : ((l.length : Int) != (l'.length : Int)) = true := by simp; omega
      have HNo := Lib.hid (sameXs_len l l' hll)
      cases b1 <;> cases b2 <;> cases b3 <;> cases b4 <;> cases b5
      all_goals
        go_enter Tryz.func13, Tryz.ntmps13
        go_wp2_with fail
        go_ret
        exact ⟨ret_bool (by rw [HS2.out, HNo.out]; simp), HBa.out⟩
end Go.Proofs.YtfjimoccliejdaaGreatDoor
end
