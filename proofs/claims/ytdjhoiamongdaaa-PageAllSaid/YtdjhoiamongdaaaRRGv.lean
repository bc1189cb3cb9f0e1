/-
  Contract of the document's own getValue: the value that bytes begin with.
-/
import Derived.Test.YtdjhoiamongdaaaRGet
import Derived.Test.YtdjhoiamongdaaaRChk
import Derived.RegionTactic
import Derived.BigRegion
namespace Go.Proofs.Ytdjhoiamongdaaa
open Go.RowKit Go.Shelf

/-- Two boxes, one behind the other. -/
def Box2 (w : World) (S : Nat) (r v : Va) : Prop :=
  w.heap[S]? = some (.cells #[.int .i64 r.k, .int .i64 r.n, .string r.s] 94 (0, 0)) ∧ w.heap[S + 1]? = some (.cells #[.int .i64 v.k, .int .i64 v.n, .string v.s] 94 (0, 0))
theorem Box2.lt {w : World} {S : Nat} {r v : Va} (h : Box2 w S r v) : S + 1 < w.heap.size := by
  rcases Nat.lt_or_ge (S + 1) w.heap.size with hl | hg
  · exact hl
  · have := h.2; rw [Array.getElem?_eq_none hg] at this; cases this
theorem Box2.made (w : World) (r v : Va) : Box2 ((w.alloc (.cells #[.int .i64 r.k, .int .i64 r.n, .string r.s] 94)).alloc (.cells #[.int .i64 v.k, .int .i64 v.n, .string v.s] 94)) w.heap.size r v := by
  refine ⟨?_, ?_⟩
  · rw [Below.heap_alloc _ _ _ (by simp)]; exact heap_alloc_new w _
  · have := heap_alloc_new (w.alloc (.cells #[.int .i64 r.k, .int .i64 r.n, .string r.s] 94)) (.cells #[.int .i64 v.k, .int .i64 v.n, .string v.s] 94)
    rwa [World.size_alloc] at this
theorem Box2.kept {w w' : World} {S : Nat} {r v : Va} (h : Box2 w S r v) (hb : Below w.heap.size w w') : Box2 w' S r v :=
  ⟨(hb.block S (by have := h.lt; omega)).trans h.1, (hb.block (S + 1) h.lt).trans h.2⟩
theorem Box2.cells {w : World} {S : Nat} {r v : Va} (h : Box2 w S r v) :
    w.cell? ⟨S, 0, none⟩ = some (.int .i64 r.k) ∧ w.cell? ⟨S, 1, none⟩ = some (.int .i64 r.n) ∧ w.cell? ⟨S, 2, none⟩ = some (.string r.s) ∧
    w.frozen? ⟨S, 0, none⟩ = false ∧ w.frozen? ⟨S, 1, none⟩ = false ∧ w.frozen? ⟨S, 2, none⟩ = false ∧
    w.cell? ⟨S + 1, 0, none⟩ = some (.int .i64 v.k) ∧ w.cell? ⟨S + 1, 1, none⟩ = some (.int .i64 v.n) ∧ w.cell? ⟨S + 1, 2, none⟩ = some (.string v.s) ∧ w.frozen? ⟨S + 1, 1, none⟩ = false := by
  obtain ⟨h1, h2⟩ := h
  simp [World.cell?, World.frozen?, h1, h2]
theorem Box2.num {w : World} {S : Nat} {r v : Va} (h : Box2 w S r v) (n : Int) : Box2 (w.setCell ⟨S + 1, 1, none⟩ (.int .i64 n)) S r ⟨v.k, n, v.s⟩ := by
  obtain ⟨h1, h2⟩ := h
  refine ⟨?_, ?_⟩
  · rw [Below.heap_setCell _ _ _ _ (by simp)]; exact h1
  · simp [World.setCell, Array.getElem?_modify, h2]
theorem Box2.drew {w : World} {S : Nat} {r v : Va} (h : Box2 w S r v) : Box2 w.drew S r v := h

theorem str_small (t : List Int) (h : t.length ≤ 255) : (strOfNums t).size ≤ 9223372036854775807 := by
  have : (strOfNums t).size = t.length := by
    show (strOfNums t).data.size = _
    rw [← Array.length_toList, strOfNums_data]; simp
  omega
theorem BytesAt.heap' {w w' : World} {A : Option Addr} {l : List Int} (h : BytesAt w A l) (hh : w'.heap = w.heap) : BytesAt w' A l := by
  refine ⟨?_, h.2⟩
  rcases h.1 with h0 | ⟨b, off, rfl, hb, hc⟩
  · exact .inl h0
  · exact .inr ⟨b, off, rfl, by rw [hh]; exact hb, fun i v hv => by unfold World.cell?; rw [hh]; exact hc i v hv⟩
theorem str_atc {w : World} {A : Option Addr} {l : List Int} {L : Nat} (h : BytesAt w A l) (hL : l.length = L) (c : Nat) :
    (convert 25 9 (.slice A L c)).run Try.prog w = .ok (.string (strOfNums l)) w := by
  subst hL; exact h.str c

def gotN : Option (Va × Nat) → Array Value
  | some (v, n) => #[VV v.k v.n v.s, .int .i64 n]
  | none => #[VV 0 0 ⟨#[]⟩, .int .i64 0]
theorem gotN_keep (v : Va) (n : Nat) : gotN (keepOk v n) = if v.ok then #[VV v.k v.n v.s, .int .i64 n] else #[VV 0 0 ⟨#[]⟩, .int .i64 0] := by
  unfold keepOk; cases v.ok <;> rfl

set_option maxRecDepth 100000 in
set_option maxHeartbeats 2000000 in
theorem rgv_nil (A : Option Addr) (c : Nat) (w : World) :
    Calls Try.prog 93 #[.slice A 0 c] w fun e w' => e = .returned (.tuple #[VV 0 0 ⟨#[]⟩, .int .i64 0]) ∧ Below w.heap.size w w' := by
  go_enter Try.func93, Try.ntmps93
  go_wp2_with fail
  refine bodyPost_ret (v := .tuple #[VV 0 0 ⟨#[]⟩, .int .i64 0]) (by simp [results, Try.results93, go_sem]) rfl ⟨rfl, ?_⟩
  exact ba _ _

set_option maxRecDepth 100000 in
set_option maxHeartbeats 2000000 in
theorem rgv_null (b off L c : Nat) (w : World) (hb : b < w.heap.size) (hL : 1 ≤ L) (c0 : w.cell? ⟨b, off, none⟩ = some (.int .u8 0)) :
    Calls Try.prog 93 #[.slice (some ⟨b, off, none⟩) L c] w fun e w' => e = .returned (.tuple #[VV 0 0 ⟨#[]⟩, .int .i64 1]) ∧ Below w.heap.size w w' := by
  have _u : True := (fun _ _ => trivial) hb hL
  clear _u
  have hL0 : ((L : Int) == 0) = false := beq_eq_false_iff_ne.2 (by omega)
  have hbn : b ≠ w.heap.size := by omega
  have hbn1 : b ≠ w.heap.size + 1 := by omega
  go_enter Try.func93, Try.ntmps93
  go_wp2_with fail
  refine bodyPost_ret (v := .tuple #[VV 0 0 ⟨#[]⟩, .int .i64 1]) (by simp [results, Try.results93, go_sem]) rfl ⟨rfl, ?_⟩
  exact ba2 _ _ _

set_option maxRecDepth 100000 in
set_option maxHeartbeats 2000000 in
theorem rgv_odd (b off L c : Nat) (k : Int) (hk : 4 ≤ k) (hk2 : k < 256) (w : World) (hb : b < w.heap.size) (hL : 1 ≤ L) (c0 : w.cell? ⟨b, off, none⟩ = some (.int .u8 k)) :
    Calls Try.prog 93 #[.slice (some ⟨b, off, none⟩) L c] w fun e w' => e = .returned (.tuple #[VV 0 0 ⟨#[]⟩, .int .i64 0]) ∧ Below w.heap.size w w' := by
  have _u : True := (fun _ _ _ _ => trivial) hk hk2 hb hL
  clear _u
  have hL0 : ((L : Int) == 0) = false := beq_eq_false_iff_ne.2 (by omega)
  have hbn : b ≠ w.heap.size := by omega
  have hbn1 : b ≠ w.heap.size + 1 := by omega
  have e0 : (k == 0) = false := beq_eq_false_iff_ne.2 (by omega)
  have e1 : (k == 1) = false := beq_eq_false_iff_ne.2 (by omega)
  have e2 : (k == 2) = false := beq_eq_false_iff_ne.2 (by omega)
  have e3 : (k == 3) = false := beq_eq_false_iff_ne.2 (by omega)
  go_enter Try.func93, Try.ntmps93
  go_wp2_with fail
  refine bodyPost_ret (v := .tuple #[VV 0 0 ⟨#[]⟩, .int .i64 0]) (by simp [results, Try.results93, go_sem]) rfl ⟨rfl, ?_⟩
  exact ba2 _ _ _

set_option maxRecDepth 100000 in
set_option maxHeartbeats 2000000 in
theorem rgv_short1 (b off L c : Nat) (h2 : ¬ (2 : Int) ≤ L) (w : World) (hb : b < w.heap.size) (hL : 1 ≤ L) (c0 : w.cell? ⟨b, off, none⟩ = some (.int .u8 1)) :
    Calls Try.prog 93 #[.slice (some ⟨b, off, none⟩) L c] w fun e w' => e = .returned (.tuple #[VV 0 0 ⟨#[]⟩, .int .i64 0]) ∧ Below w.heap.size w w' := by
  have _u : True := (fun _ _ _ => trivial) h2 hb hL
  clear _u
  have hL0 : ((L : Int) == 0) = false := beq_eq_false_iff_ne.2 (by omega)
  have hbn : b ≠ w.heap.size := by omega
  have hbn1 : b ≠ w.heap.size + 1 := by omega
  go_enter Try.func93, Try.ntmps93
  go_wp2_with fail
  refine bodyPost_ret (v := .tuple #[VV 0 0 ⟨#[]⟩, .int .i64 0]) (by simp [results, Try.results93, go_sem]) rfl ⟨rfl, ?_⟩
  exact ba2 _ _ _

set_option maxRecDepth 100000 in
set_option maxHeartbeats 2000000 in
theorem rgv_short2 (b off L c : Nat) (h2 : ¬ (8 : Int) ≤ L) (w : World) (hb : b < w.heap.size) (hL : 1 ≤ L) (c0 : w.cell? ⟨b, off, none⟩ = some (.int .u8 2)) :
    Calls Try.prog 93 #[.slice (some ⟨b, off, none⟩) L c] w fun e w' => e = .returned (.tuple #[VV 0 0 ⟨#[]⟩, .int .i64 0]) ∧ Below w.heap.size w w' := by
  have _u : True := (fun _ _ _ => trivial) h2 hb hL
  clear _u
  have hL0 : ((L : Int) == 0) = false := beq_eq_false_iff_ne.2 (by omega)
  have hbn : b ≠ w.heap.size := by omega
  have hbn1 : b ≠ w.heap.size + 1 := by omega
  go_enter Try.func93, Try.ntmps93
  go_wp2_with fail
  refine bodyPost_ret (v := .tuple #[VV 0 0 ⟨#[]⟩, .int .i64 0]) (by simp [results, Try.results93, go_sem]) rfl ⟨rfl, ?_⟩
  exact ba2 _ _ _

set_option maxRecDepth 100000 in
set_option maxHeartbeats 2000000 in
theorem rgv_short3 (b off L c : Nat) (h2 : ¬ (2 : Int) ≤ L) (w : World) (hb : b < w.heap.size) (hL : 1 ≤ L) (c0 : w.cell? ⟨b, off, none⟩ = some (.int .u8 3)) :
    Calls Try.prog 93 #[.slice (some ⟨b, off, none⟩) L c] w fun e w' => e = .returned (.tuple #[VV 0 0 ⟨#[]⟩, .int .i64 0]) ∧ Below w.heap.size w w' := by
  have _u : True := (fun _ _ _ => trivial) h2 hb hL
  clear _u
  have hL0 : ((L : Int) == 0) = false := beq_eq_false_iff_ne.2 (by omega)
  have hbn : b ≠ w.heap.size := by omega
  have hbn1 : b ≠ w.heap.size + 1 := by omega
  go_enter Try.func93, Try.ntmps93
  go_wp2_with fail
  refine bodyPost_ret (v := .tuple #[VV 0 0 ⟨#[]⟩, .int .i64 0]) (by simp [results, Try.results93, go_sem]) rfl ⟨rfl, ?_⟩
  exact ba2 _ _ _

set_option maxRecDepth 100000 in
set_option maxHeartbeats 2000000 in
theorem rgv_short4 (b off L c : Nat) (x : Int) (h2 : (2 : Int) ≤ L) (hx0 : 0 ≤ x) (hx1 : x < 256) (h3 : ¬ x ≤ L - 2) (h63 : L ≤ 9223372036854775807) (w : World) (hb : b < w.heap.size) (hL : 1 ≤ L) (c0 : w.cell? ⟨b, off, none⟩ = some (.int .u8 3)) (c1 : w.cell? ⟨b, off + 1, none⟩ = some (.int .u8 x)) :
    Calls Try.prog 93 #[.slice (some ⟨b, off, none⟩) L c] w fun e w' => e = .returned (.tuple #[VV 0 0 ⟨#[]⟩, .int .i64 0]) ∧ Below w.heap.size w w' := by
  have _u : True := (fun _ _ _ _ _ _ _ => trivial) h2 hx0 hx1 h3 h63 hb hL
  clear _u
  have hL0 : ((L : Int) == 0) = false := beq_eq_false_iff_ne.2 (by omega)
  have hbn : b ≠ w.heap.size := by omega
  have hbn1 : b ≠ w.heap.size + 1 := by omega
  go_enter Try.func93, Try.ntmps93
  go_wp2_with fail
  refine bodyPost_ret (v := .tuple #[VV 0 0 ⟨#[]⟩, .int .i64 0]) (by simp [results, Try.results93, go_sem]) rfl ⟨rfl, ?_⟩
  exact ba2 _ _ _

set_option maxRecDepth 100000 in
set_option maxHeartbeats 2000000 in
theorem rgv_bool (b off L c : Nat) (x : Int) (h2 : (2 : Int) ≤ L) (hx0 : 0 ≤ x) (hx1 : x < 256) (ok : Bool) (w : World) (hb : b < w.heap.size) (hL : 1 ≤ L) (c0 : w.cell? ⟨b, off, none⟩ = some (.int .u8 1)) (c1 : w.cell? ⟨b, off + 1, none⟩ = some (.int .u8 x)) (hok : badA ⟨1, x, ⟨#[]⟩⟩ = !ok) :
    Calls Try.prog 93 #[.slice (some ⟨b, off, none⟩) L c] w fun e w' => e = .returned (.tuple (if ok then #[VV 1 x ⟨#[]⟩, .int .i64 2] else #[VV 0 0 ⟨#[]⟩, .int .i64 0])) ∧ Below w.heap.size w w' := by
  have _u : True := (fun _ _ _ _ _ _ => trivial) h2 hx0 hx1 hb hL hok
  clear _u
  have hL0 : ((L : Int) == 0) = false := beq_eq_false_iff_ne.2 (by omega)
  have hbn : b ≠ w.heap.size := by omega
  have hbn1 : b ≠ w.heap.size + 1 := by omega
  have HC := Lib.hid (fun W => refCheckA (!ok) ⟨1, x, ⟨#[]⟩⟩ W empty_small hok)
  rw [Bool.not_not] at HC
  clear hok
  go_enter Try.func93, Try.ntmps93
  go_wp2_with fail
  have hX := Box2.made w nullA ⟨1, x, ⟨#[]⟩⟩
  refine (HC.out _).mono ?_
  rintro e w1 ⟨rfl, hb1⟩
  have hX1 := hX.kept hb1
  obtain ⟨d0, d1, d2, f0, f1, f2, v0, v1, v2, _⟩ := hX1.cells
  have HB := Lib.hid (bt (ba2 _ _ _) hb1)
  clear hb1 hX hX1
  cases ok
  · go_wp2_with fail
    refine bodyPost_ret (v := .tuple #[VV 0 0 ⟨#[]⟩, .int .i64 0]) (by simp [results, Try.results93, go_sem, d0, d1, d2]) rfl ⟨rfl, ?_⟩
    exact ((HB.out.setCell (Nat.le_refl _) _).setCell (Nat.le_refl _) _).setCell (Nat.le_refl _) _
  · go_wp2_with fail
    refine bodyPost_ret (v := .tuple #[VV 1 x ⟨#[]⟩, .int .i64 2]) (by simp [results, Try.results93, go_sem, d0, d1, d2]) rfl ⟨rfl, ?_⟩
    exact ((HB.out.setCell (Nat.le_refl _) _).setCell (Nat.le_refl _) _).setCell (Nat.le_refl _) _

set_option maxRecDepth 100000 in
set_option maxHeartbeats 2000000 in
theorem rgv_text (b off L c : Nat) (X : Nat) (t : List Int) (h2 : (2 : Int) ≤ L) (hx1 : X < 256) (h3 : (X : Int) ≤ L - 2) (hc : L ≤ c) (h63 : L ≤ 9223372036854775807) (ok : Bool) (w : World) (hb : b < w.heap.size) (hL : 1 ≤ L) (c0 : w.cell? ⟨b, off, none⟩ = some (.int .u8 3)) (c1 : w.cell? ⟨b, off + 1, none⟩ = some (.int .u8 X)) (ht : BytesAt w (some ⟨b, off + 2, none⟩) t) (htl : t.length = X) (hc2 : c ≠ 2) (hok : badA ⟨3, 0, strOfNums t⟩ = !ok) :
    Calls Try.prog 93 #[.slice (some ⟨b, off, none⟩) L c] w fun e w' => e = .returned (.tuple (if ok then #[VV 3 0 (strOfNums t), .int .i64 (2 + (X : Int))] else #[VV 0 0 ⟨#[]⟩, .int .i64 0])) ∧ Below w.heap.size w w' := by
  have _u : True := (fun _ _ _ _ _ _ _ _ _ _ _ => trivial) h2 hx1 h3 hc h63 hb hL ht htl hc2 hok
  clear _u
  have hL0 : ((L : Int) == 0) = false := beq_eq_false_iff_ne.2 (by omega)
  have hbn : b ≠ w.heap.size := by omega
  have hbn1 : b ≠ w.heap.size + 1 := by omega
  have HC := Lib.hid (fun W => refCheckA (!ok) ⟨3, 0, strOfNums t⟩ W (str_small t (by omega)) hok)
  rw [Bool.not_not] at HC
  clear hok
  have hcv := fun (o1 o2 : Obj) => (str_atc ((ht.kept (ba w o1)).kept (ba _ o2)) htl (c - 2)).trans rfl
  have hX0 : (X : Int) ≤ 255 := by omega
  have hcc : (2 : Int) + X ≤ c := by omega
  have HT := Lib.hid htl
  clear htl ht
  generalize strOfNums t = str at HC hcv ⊢
  go_enter Try.func93, Try.ntmps93
  go_wp2_with fail
  have hX := Box2.made w nullA ⟨3, 0, str⟩
  refine (HC.out _).mono ?_
  rintro e w1 ⟨rfl, hb1⟩
  have hX1 := hX.kept hb1
  obtain ⟨d0, d1, d2, f0, f1, f2, v0, v1, v2, _⟩ := hX1.cells
  have HB := Lib.hid (bt (ba2 _ _ _) hb1)
  clear hb1 hX hX1
  cases ok
  · go_wp2_with fail
    refine bodyPost_ret (v := .tuple #[VV 0 0 ⟨#[]⟩, .int .i64 0]) (by simp [results, Try.results93, go_sem, d0, d1, d2]) rfl ⟨rfl, ?_⟩
    exact ((HB.out.setCell (Nat.le_refl _) _).setCell (Nat.le_refl _) _).setCell (Nat.le_refl _) _
  · go_wp2_with fail
    refine bodyPost_ret (v := .tuple #[VV 3 0 str, .int .i64 (2 + (X : Int))]) (by simp [results, Try.results93, go_sem, d0, d1, d2]) rfl ⟨rfl, ?_⟩
    exact ((HB.out.setCell (Nat.le_refl _) _).setCell (Nat.le_refl _) _).setCell (Nat.le_refl _) _

set_option maxRecDepth 100000 in
set_option maxHeartbeats 2000000 in
theorem rgv_text0 (b off L c : Nat) (ok : Bool) (w : World) (hb : b < w.heap.size) (hL : 1 ≤ L) (c0 : w.cell? ⟨b, off, none⟩ = some (.int .u8 3)) (c1 : w.cell? ⟨b, off + 1, none⟩ = some (.int .u8 0)) (h2 : L = 2) (hc : c = 2) (hok : badA ⟨3, 0, ⟨#[]⟩⟩ = !ok) :
    Calls Try.prog 93 #[.slice (some ⟨b, off, none⟩) L c] w fun e w' => e = .returned (.tuple (if ok then #[VV 3 0 ⟨#[]⟩, .int .i64 2] else #[VV 0 0 ⟨#[]⟩, .int .i64 0])) ∧ Below w.heap.size w w' := by
  have _u : True := (fun _ _ _ _ _ => trivial) hb hL h2 hc hok
  clear _u
  have hL0 : ((L : Int) == 0) = false := beq_eq_false_iff_ne.2 (by omega)
  have hbn : b ≠ w.heap.size := by omega
  have hbn1 : b ≠ w.heap.size + 1 := by omega
  have HC := Lib.hid (fun W => refCheckA (!ok) ⟨3, 0, ⟨#[]⟩⟩ W empty_small hok)
  rw [Bool.not_not] at HC
  clear hok
  subst h2 hc
  have hcv : ∀ o1 o2 : Obj, (convert 25 9 (.slice (some ⟨b, off, none⟩) 0 0)).run Try.prog ((w.alloc o1).alloc o2) = .ok (.string ⟨#[]⟩) ((w.alloc o1).alloc o2) := fun o1 o2 => str_atc (l := []) ⟨.inl rfl, by simp⟩ rfl 0
  go_enter Try.func93, Try.ntmps93
  go_wp2_with fail
  have hX := Box2.made w nullA ⟨3, 0, ⟨#[]⟩⟩
  refine (HC.out _).mono ?_
  rintro e w1 ⟨rfl, hb1⟩
  have hX1 := hX.kept hb1
  obtain ⟨d0, d1, d2, f0, f1, f2, v0, v1, v2, _⟩ := hX1.cells
  have HB := Lib.hid (bt (ba2 _ _ _) hb1)
  clear hb1 hX hX1
  cases ok
  · go_wp2_with fail
    refine bodyPost_ret (v := .tuple #[VV 0 0 ⟨#[]⟩, .int .i64 0]) (by simp [results, Try.results93, go_sem, d0, d1, d2]) rfl ⟨rfl, ?_⟩
    exact ((HB.out.setCell (Nat.le_refl _) _).setCell (Nat.le_refl _) _).setCell (Nat.le_refl _) _
  · go_wp2_with fail
    refine bodyPost_ret (v := .tuple #[VV 3 0 ⟨#[]⟩, .int .i64 2]) (by simp [results, Try.results93, go_sem, d0, d1, d2]) rfl ⟨rfl, ?_⟩
    exact ((HB.out.setCell (Nat.le_refl _) _).setCell (Nat.le_refl _) _).setCell (Nat.le_refl _) _

set_option maxRecDepth 100000 in
set_option maxHeartbeats 2000000 in
theorem rgv_int (b off L c : Nat) (t : List Int) (h2 : (8 : Int) ≤ L) (ok : Bool) (w : World) (hb : b < w.heap.size) (hL : 1 ≤ L) (c0 : w.cell? ⟨b, off, none⟩ = some (.int .u8 2)) (ht : BytesAt w (some ⟨b, off + 1, none⟩) t) (htl : 7 ≤ t.length) (hok : badA ⟨2, num (t.take 7) - 9007199254740992, ⟨#[]⟩⟩ = !ok) :
    Calls Try.prog 93 #[.slice (some ⟨b, off, none⟩) L c] w fun e w' => e = .returned (.tuple (if ok then #[VV 2 (num (t.take 7) - 9007199254740992) ⟨#[]⟩, .int .i64 8] else #[VV 0 0 ⟨#[]⟩, .int .i64 0])) ∧ Below w.heap.size w w' := by
  have _u : True := (fun _ _ _ _ _ _ => trivial) h2 hb hL ht htl hok
  clear _u
  have hL0 : ((L : Int) == 0) = false := beq_eq_false_iff_ne.2 (by omega)
  have hbn : b ≠ w.heap.size := by omega
  have hbn1 : b ≠ w.heap.size + 1 := by omega
  have HC := Lib.hid (fun W => refCheckA (!ok) ⟨2, num (t.take 7) - 9007199254740992, ⟨#[]⟩⟩ W empty_small hok)
  rw [Bool.not_not] at HC
  clear hok
  have hr := Lib.hid (num_take_le t ht.2)
  have HT := Lib.hid ht
  clear ht
  go_enter Try.func93, Try.ntmps93
  go_wp2_with fail
  have hX0 := Lib.hid (Box2.made w nullA ⟨2, 0, ⟨#[]⟩⟩)
  have hB0 := Lib.hid (ba2 w (.cells #[.int .i64 0, .int .i64 0, .string ⟨#[]⟩] 94) (.cells #[.int .i64 2, .int .i64 0, .string ⟨#[]⟩] 94))
  change Hid (Box2 ((w.alloc (.cells #[.int .i64 0, .int .i64 0, .string ⟨#[]⟩] 94)).alloc (.cells #[.int .i64 2, .int .i64 0, .string ⟨#[]⟩] 94)) w.heap.size nullA ⟨2, 0, ⟨#[]⟩⟩) at hX0
  generalize (w.alloc (.cells #[.int .i64 0, .int .i64 0, .string ⟨#[]⟩] 94)).alloc (.cells #[.int .i64 2, .int .i64 0, .string ⟨#[]⟩] 94) = W at hX0 hB0 ⊢
  go_loopw [6] (fun i wr => ∃ j : Nat, j ≤ 7 ∧ i = .int .i64 (1 + (j : Int)) ∧ Hid (Below w.heap.size w wr) ∧ Hid (Box2 wr w.heap.size nullA ⟨2, num (t.take j), ⟨#[]⟩⟩)) (fun i _ => (8 - intOf i).toNat)
  case atStart => exact ⟨0, by omega, rfl, hB0, Lib.hid (by simpa [num] using hX0.out)⟩
  case round =>
    obtain ⟨j, hj, rfl, HB, HX⟩ := hrel
    clear hX0 hB0
    by_cases hlt : j < 7
    · have hjl : j < t.length := by omega
      obtain ⟨b', off', e', hb', c1, x0, x1⟩ := (HT.out.kept HB.out).at (List.getElem?_eq_getElem hjl)
      cases e'
      have HS := Lib.hid (num_succ t j hjl)
      have hrj := hr.out j
      have hp : (256 : Int) ^ j ≤ 256 ^ 6 := by
        have : j = 0 ∨ j = 1 ∨ j = 2 ∨ j = 3 ∨ j = 4 ∨ j = 5 ∨ j = 6 := by omega
        rcases this with rfl | rfl | rfl | rfl | rfl | rfl | rfl <;> decide
      generalize t[j] = x at c1 x0 x1 HS
      generalize num (t.take j) = m at HS hrj HX
      have hm0 : 0 ≤ m := hrj.1
      have hm1 : m < 281474976710656 := by have := hrj.2; omega
      clear hrj hp
      obtain ⟨d0, d1, d2, f0, f1, f2, v0, v1, v2, f4⟩ := HX.out.cells
      have e1 : off + 1 + j = off + (1 + j) := by omega
      rw [e1] at c1
      have hbn' : b ≠ w.heap.size + 1 := by omega
      have hi0 : (0 : Int) ≤ 1 + (j : Int) := by omega
      have hi1 : 1 + (j : Int) < (L : Int) := by omega
      go_wp2_with fail
      go_region
      all_goals
        go_wp2_with fail
        refine ⟨⟨j + 1, by omega, ?_, Lib.hid (HB.out.setCell (p := ⟨w.heap.size + 1, 1, none⟩) (by simp) _).drew, Lib.hid ?_⟩, ?_⟩
        · rw [show (1 + (j : Int) + 1) = 1 + ((j + 1 : Nat) : Int) by omega]
        · rw [HS.out, Int.mul_comm m 256]
          exact (HX.out.num (256 * m + x)).drew
        · simp [intOf]; omega
    · obtain rfl : j = 7 := by omega
      have hr7 := hr.out 7
      have hm0 : 0 ≤ num (t.take 7) := hr7.1
      have hm1 : num (t.take 7) < 72057594037927936 := by have := hr7.2; omega
      generalize hmm : num (t.take 7) = m at HX hm0 hm1 HC ⊢
      have HM := Lib.hid hmm
      clear hmm
      clear hr7
      obtain ⟨d0, d1, d2, f0, f1, f2, v0, v1, v2, f4⟩ := HX.out.cells
      have hX := HX.out.num (m - 9007199254740992)
      have HB2 := Lib.hid (HB.out.setCell (p := ⟨w.heap.size + 1, 1, none⟩) (by simp) (.int .i64 (m - 9007199254740992)))
      go_wp2_with fail
      refine (HC.out _).mono ?_
      rintro e w1 ⟨rfl, hb1⟩
      have hX1 := hX.kept hb1
      obtain ⟨d0, d1, d2, f0, f1, f2, v0, v1, v2, _⟩ := hX1.cells
      have HB := Lib.hid (bt HB2.out hb1)
      clear hb1 hX hX1
      cases ok
      · go_wp2_with fail
        refine bodyPost_ret (v := .tuple #[VV 0 0 ⟨#[]⟩, .int .i64 0]) (by simp [results, Try.results93, go_sem, d0, d1, d2]) rfl ⟨rfl, ?_⟩
        exact ((HB.out.setCell (Nat.le_refl _) _).setCell (Nat.le_refl _) _).setCell (Nat.le_refl _) _
      · go_wp2_with fail
        refine bodyPost_ret (v := .tuple #[VV 2 (m - 9007199254740992) ⟨#[]⟩, .int .i64 8]) (by simp [results, Try.results93, go_sem, d0, d1, d2]) rfl ⟨by rw [HM.out], ?_⟩
        exact ((HB.out.setCell (Nat.le_refl _) _).setCell (Nat.le_refl _) _).setCell (Nat.le_refl _) _

theorem gv_ok {v : Va} {b : Bool} (h : v.ok = b) : badA v = !b := by rw [← h]; rfl
set_option maxRecDepth 10000 in
theorem refGetValue_any (A : Option Addr) (L c : Nat) (bs : List Int) (w : World) (h : BytesAt w A bs) (hL : bs.length = L) (hc : L ≤ c) (h63 : L ≤ 9223372036854775807) :
    Calls Try.prog 93 #[.slice A L c] w fun e w' => e = .returned (.tuple (gotN (getV bs))) ∧ Below w.heap.size w w' := by
  cases bs with
  | nil => subst hL; exact rgv_nil A c w
  | cons k t =>
    obtain ⟨b, off, rfl, hb, c0, k0, k1⟩ := at_nil h rfl
    have hL' : t.length + 1 = L := by simpa using hL
    by_cases e0 : k = 0
    · subst e0
      have := rgv_null b off L c w hb (by omega) c0
      have e : getV (0 :: t) = some (nullA, 1) := by simp [getV]
      rw [e]
      exact this
    by_cases e1 : k = 1
    · subst e1
      cases t with
      | nil =>
        have := rgv_short1 b off L c (by simp at hL'; omega) w hb (by omega) c0
        simpa [getV, gotN] using this
      | cons x u =>
        simp only [List.length_cons] at hL'
        obtain ⟨b', off', e', _, c1, x0, x1⟩ := h.at (i := 1) (x := x) rfl
        cases e'
        have := rgv_bool b off L c x (by omega) x0 x1 _ w hb (by omega) c0 c1 (gv_ok rfl)
        have e : getV (1 :: x :: u) = keepOk ⟨1, x, ⟨#[]⟩⟩ 2 := by simp [getV]
        rw [e, gotN_keep]
        exact this
    by_cases e2 : k = 2
    · subst e2
      by_cases h7 : t.length < 7
      · have e : getV (2 :: t) = none := by simp [getV, h7]
        rw [e]
        exact rgv_short2 b off L c (by omega) w hb (by omega) c0
      · have hd := h.drop c 1 (by simp; omega)
        have hc1 : c ≠ 1 := by omega
        rw [show adv (some ⟨b, off, none⟩) c 1 = some ⟨b, off + 1, none⟩ by simp [adv, hc1, Addr.add]] at hd
        have := rgv_int b off L c t (by omega) _ w hb (by omega) c0 hd (by omega) (gv_ok rfl)
        have e : getV (2 :: t) = keepOk ⟨2, num (t.take 7) - 9007199254740992, ⟨#[]⟩⟩ 8 := by simp [getV, h7]
        rw [e, gotN_keep]
        exact this
    by_cases e3 : k = 3
    · subst e3
      cases t with
      | nil =>
        have := rgv_short3 b off L c (by simp at hL'; omega) w hb (by omega) c0
        simpa [getV, gotN] using this
      | cons x u =>
        simp only [List.length_cons] at hL'
        obtain ⟨b', off', e', _, c1, x0, x1⟩ := h.at (i := 1) (x := x) rfl
        cases e'
        obtain ⟨X, rfl⟩ := Int.eq_ofNat_of_zero_le x0
        by_cases hu : u.length < X
        · have e : getV (3 :: (X : Int) :: u) = none := by simp [getV, hu]
          rw [e]
          exact rgv_short4 b off L c X (by omega) (by omega) (by omega) (by omega) h63 w hb (by omega) c0 c1
        · have e : getV (3 :: (X : Int) :: u) = keepOk ⟨3, 0, strOfNums (u.take X)⟩ (2 + X) := by simp [getV, hu]
          rw [e, gotN_keep]
          by_cases hc2 : c = 2
          · have hX0 : X = 0 := by omega
            subst hX0
            have := rgv_text0 b off L c _ w hb (by omega) c0 c1 (by omega) hc2 (gv_ok rfl)
            exact this
          · have hd := (h.drop c 2 (by simp; omega)).take X
            rw [show adv (some ⟨b, off, none⟩) c 2 = some ⟨b, off + 2, none⟩ by simp [adv, hc2, Addr.add]] at hd
            have := rgv_text b off L c X (u.take X) (by omega) (by omega) (by omega) hc h63 _ w hb (by omega) c0 c1 hd (by simp; omega) hc2 (gv_ok rfl)
            rw [show ((2 + X : Nat) : Int) = 2 + (X : Int) by omega]
            exact this
    have e : getV (k :: t) = none := by simp [getV, e0, e1, e2, e3]
    rw [e]
    exact rgv_odd b off L c k (by omega) k1 w hb (by omega) c0

end Go.Proofs.Ytdjhoiamongdaaa
