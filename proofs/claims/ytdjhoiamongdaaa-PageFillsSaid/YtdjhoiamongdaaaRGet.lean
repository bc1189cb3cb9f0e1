/-
  Contract of row.Get.
-/
import Derived.Test.YtdjhoiamongdaaaRGetV
import Derived.Test.YtdjhoiamongdaaaRNul
import Derived.Test.YtdjhoiamongdaaaRPut2
namespace Go.Proofs.Ytdjhoiamongdaaa
open Go.RowKit Go.Shelf

theorem keep_some {v v' : Va} {n n' : Nat} (h : keepOk v n = some (v', n')) : v' = v ∧ n' = n ∧ v.ok = true := by
  unfold keepOk at h
  cases hv : v.ok
  · simp [hv] at h
  · simp [hv] at h; exact ⟨h.1.symm, h.2.symm, rfl⟩

theorem getV_some {bs : List Int} {v : Va} {n : Nat} (h : getV bs = some (v, n)) : 1 ≤ n ∧ n ≤ bs.length ∧ v.ok = true := by
  cases bs with
  | nil => simp [getV] at h
  | cons k t =>
    unfold getV at h
    simp only at h
    split at h
    · simp at h; obtain ⟨rfl, rfl⟩ := h; exact ⟨by omega, by simp, by decide +kernel⟩
    · split at h
      · cases t with
        | nil => simp at h
        | cons x u => obtain ⟨rfl, rfl, ho⟩ := keep_some h; exact ⟨by omega, by simp, ho⟩
      · split at h
        · split at h
          · simp at h
          · obtain ⟨rfl, rfl, ho⟩ := keep_some h; exact ⟨by omega, by simp; omega, ho⟩
        · split at h
          · cases t with
            | nil => simp at h
            | cons x u =>
              simp only at h
              split at h
              · simp at h
              · obtain ⟨rfl, rfl, ho⟩ := keep_some h; exact ⟨by omega, by simp; omega, ho⟩
          · simp at h

/-- Some values, one behind another; a row. -/
def getR : Nat → List Int → Option (List Va × Nat)
  | 0, _ => some ([], 0)
  | n + 1, bs => match getV bs with
    | none => none
    | some (v, k) => match getR n (bs.drop k) with
      | none => none
      | some (r, m) => some (v :: r, k + m)
def getRow : List Int → Option (List Va × Nat)
  | [] => none
  | k :: t => if 32 < k then none else match getR k.toNat t with
    | none => none
    | some (r, m) => some (r, 1 + m)

/-- What is left to be got, behind what has been. -/
def after (r0 : List Va) (S : Nat) : Option (List Va × Nat) → Option (List Va × Nat)
  | none => none
  | some (r, m) => some (r0 ++ r, S + m)
theorem after_none {r0 : List Va} {S n : Nat} {bs : List Int} (h : getV bs = none) : after r0 S (getR (n + 1) bs) = none := by
  simp [getR, h, after]
theorem after_some {r0 : List Va} {S n k : Nat} {v : Va} {bs : List Int} (h : getV bs = some (v, k)) : after r0 S (getR (n + 1) bs) = after (r0 ++ [v]) (S + k) (getR n (bs.drop k)) := by
  simp only [getR, h]
  cases getR n (bs.drop k) with
  | none => rfl
  | some p => obtain ⟨r, m⟩ := p; simp [after]; omega

/-- A row of the call's own, of a known capacity. -/
structure RBuf (w : World) (base g cap N : Nat) (r : List Va) : Prop where
  len : r.length = N
  own : w.ownsRow base 94 3 (.slice (some ⟨g, 0, none⟩) N cap) N (rowList r)
theorem RBuf.lt {w : World} {base g cap N : Nat} {r : List Va} (h : RBuf w base g cap N r) : base ≤ g ∧ g < w.heap.size := World.ownsRow.lt h.own g rfl
theorem RBuf.alloc {w : World} {base g cap N : Nat} {r : List Va} (h : RBuf w base g cap N r) (o : Obj) : RBuf (w.alloc o) base g cap N r := ⟨h.len, h.own.alloc o⟩
theorem RBuf.kept {w w' : World} {base g cap N : Nat} {r : List Va} (h : RBuf w base g cap N r) (hb : Below w.heap.size w w') : RBuf w' base g cap N r := by
  refine ⟨h.len, h.own.1, ?_⟩
  rcases h.own.2 with ⟨hv, _⟩ | ⟨g1, cap1, cur, hv, hbase, hg, hrest⟩
  · cases hv
  · refine .inr ⟨g1, cap1, cur, hv, hbase, ?_, hrest⟩
    rw [hb.block g1 ?_]
    · exact hg
    · cases hv; exact h.lt.2
theorem RBuf.row {w : World} {base g cap N : Nat} {r : List Va} (h : RBuf w base g cap N r) : RowAt w (some ⟨g, 0, none⟩) r := by
  obtain ⟨rfl, ho⟩ := h
  exact row_of_owns ho

theorem wpList_pushV {ops : Array Oper} {rest : List Oper} {o : Oper} {a : Act} {Q : Exit → Act → World → Prop} (hgd : o.guard = none) (s x : Operand)
    (ho : o.op = .call { callee := .builtin .append, args := #[s, x], argTypes := #[30, 30] })
    (base g cap N : Nat) (r : List Va) (v : Va) (W : World) (hs : a.eval s = .slice (some ⟨g, 0, none⟩) N cap) (hbuf : RBuf W base g cap N r) (nb : Nat) (hx : a.eval x = .slice (some ⟨nb, 0, none⟩) 1 1) (hnb : W.heap.size = nb) (hroom : N + 1 ≤ cap)
    (h : ∀ w', RBuf w' base g cap (N + 1) (r ++ [v]) → Below base W w' → W.heap.size < w'.heap.size → wpList Try.prog ops Q rest (a.put o.dst (.slice (some ⟨g, 0, none⟩) (N + 1) cap)) w') :
    wpList Try.prog ops Q (o :: rest) a (W.alloc (.cells #[.int .i64 v.k, .int .i64 v.n, .string v.s] 94)) := by
  subst hnb
  obtain ⟨i0, hi, hz0, hz1, hz2⟩ := info_parts info_val
  have hlt := hbuf.lt
  refine wpList_append_fits _ hgd s x 30 ho base 94 i0 3 Try.underlying30 hi hz1 g N cap (rowList r) hs (hbuf.own.alloc _) ⟨W.heap.size, 0, none⟩ 1 1 v.cells hx rfl ?_ ?_ hroom ?_
  · exact World.news_of_block (heap_alloc_new W _)
  · intro u hu; simp [Va.cells] at hu; rcases hu with rfl | rfl | rfl <;> rfl
  · intro w' hown hg
    refine h w' ⟨by simp [hbuf.len], ?_⟩ ?_ ?_
    · rw [rowList_append]; simpa [rowList] using hown
    · exact ((Below.refl base W).alloc (Nat.le_of_lt (Nat.lt_of_le_of_lt hlt.1 hlt.2)) _).grown hg (by simp; omega) (fun k hk => by cases hk; exact hlt.1)
    · have := hg.size; simp at this; omega

theorem drop_one (K : Nat) (t : List Int) (S : Nat) (h : 1 ≤ S) : ((K : Int) :: t).drop S = t.drop (S - 1) := by
  obtain ⟨S', rfl⟩ : ∃ S', S = S' + 1 := ⟨S - 1, by omega⟩
  rfl

/-- The ends of Get. -/
def GetEnd (w : World) (o : Option (List Va × Nat)) (e : Ending) (w' : World) : Prop :=
  Below w.heap.size w w' ∧ match o with
  | some (r, n) => ∃ A c, e = .returned (.tuple #[.slice A r.length c, .int .i64 n, .int .i64 0]) ∧ RowAt w' A r
  | none => e = .returned (.tuple #[.slice none 0 0, .int .i64 0, .int .i64 20])

/-- The same, and what holds the row are values. -/
def GetEndT (w : World) (o : Option (List Va × Nat)) (e : Ending) (w' : World) : Prop :=
  Below w.heap.size w w' ∧ match o with
  | some (r, n) => ∃ A c, e = .returned (.tuple #[.slice A r.length c, .int .i64 n, .int .i64 0]) ∧ RowAt w' A r ∧ (A = none → c = 0) ∧ ∀ b off, A = some ⟨b, off, none⟩ → ∃ cs fr, w'.heap[b]? = some (.cells cs 94 fr)
  | none => e = .returned (.tuple #[.slice none 0 0, .int .i64 0, .int .i64 20])
theorem GetEndT.plain {w : World} {o : Option (List Va × Nat)} {e : Ending} {w' : World} (h : GetEndT w o e w') : GetEnd w o e w' := by
  refine ⟨h.1, ?_⟩
  have h2 := h.2
  cases o with
  | none => exact h2
  | some q => obtain ⟨A, c, he, hr, _⟩ := h2; exact ⟨A, c, he, hr⟩
theorem RBuf.typed {w : World} {base g cap N : Nat} {r : List Va} (h : RBuf w base g cap N r) : ∀ b off, (some ⟨g, 0, none⟩ : Option Addr) = some ⟨b, off, none⟩ → ∃ cs fr, w.heap[b]? = some (.cells cs 94 fr) := by
  intro b off hb
  cases hb
  rcases h.own.2 with ⟨hv, _⟩ | ⟨g', cap', cur, hv, _, hg, _⟩
  · cases hv
  · cases hv; exact ⟨cur, _, hg⟩

set_option maxHeartbeats 400000 in
theorem get_nil (A : Option Addr) (c : Nat) (w : World) :
    Calls Try.prog 86 #[.slice A 0 c] w fun e w' => e = .returned (.tuple #[.slice none 0 0, .int .i64 0, .int .i64 20]) ∧ w = w' := by
  go_enter Try.func86, Try.ntmps86
  go_wp2_with fail
  go_ret3
  exact ⟨rfl, rfl⟩

set_option maxHeartbeats 400000 in
theorem get_large (b off L c : Nat) (k : Int) (w : World) (hL : 1 ≤ L) (c0 : w.cell? ⟨b, off, none⟩ = some (.int .u8 k)) (hk : 32 < k) (hk2 : k < 256) :
    Calls Try.prog 86 #[.slice (some ⟨b, off, none⟩) L c] w fun e w' => e = .returned (.tuple #[.slice none 0 0, .int .i64 0, .int .i64 20]) ∧ w = w' := by
  go_enter Try.func86, Try.ntmps86
  go_wp2_with fail
  go_ret3
  exact ⟨rfl, rfl⟩

set_option maxRecDepth 100000 in
set_option maxHeartbeats 2000000 in
theorem get_some (A : Option Addr) (L c K : Nat) (t : List Int) (w : World) (h : BytesAt w A ((K : Int) :: t)) (hL : t.length + 1 = L) (hc : L ≤ c) (h63 : L ≤ 9223372036854775807) (hK : K ≤ 32) :
    Calls Try.prog 86 #[.slice A L c] w (GetEndT w (getRow ((K : Int) :: t))) := by
  obtain ⟨b, off, rfl, hb, c0, k0, k1⟩ := at_nil h rfl
  obtain ⟨i0, hi, hz0, hz1, hz2⟩ := info_parts info_val
  have hG : getRow ((K : Int) :: t) = after [] 1 (getR K t) := by
    simp only [getRow, show ¬ (32 : Int) < K by omega, if_false, Int.toNat_natCast]
    cases getR K t with
    | none => rfl
    | some p => simp [after]
  generalize getRow ((K : Int) :: t) = res at hG ⊢
  have HG := Lib.hid hG
  clear hG
  have hL1 : 1 ≤ L := by omega
  have hK' : ¬ (32 : Int) < (K : Int) := by omega
  have hL0 : ((L : Int) == 0) = false := by simp; omega
  go_enter Try.func86, Try.ntmps86
  go_wp2_with (at_make; refine wpList_make_own _ rfl _ _ 30 rfl w.heap.size 94 i0 _ 3 Try.underlying30 hi hz0 hz1 _ _ _ K rfl rfl ?b0 ?b1 ?b2 ?b3 ?_)
  case b0 => rfl
  case b1 => omega
  case b2 => simp [maxLen]; omega
  intro w1 hown hg
  have hB1 := (Below.refl w.heap.size w).grown hg (Nat.le_refl _) (fun k hk => by cases hk)
  have hbuf : RBuf w1 w.heap.size w.heap.size K 0 [] := ⟨rfl, hown⟩
  have HB1 := Lib.hid hbuf
  have HH := Lib.hid h
  have HBe := Lib.hid hB1
  clear hown hg hbuf h c0 hB1 hb k0 k1
  go_wp2_with fail
  go_loopw [6, 7, 28] (fun s v i wr => ∃ (j S : Nat) (r0 : List Va), j ≤ K ∧ i = .int .i64 j ∧ s = .int .i64 S ∧ S ≤ L ∧ 1 ≤ S ∧ v = .slice (some ⟨w.heap.size, 0, none⟩) j K ∧ Hid (RBuf wr w.heap.size w.heap.size K j r0) ∧ Hid (Below w.heap.size w wr) ∧ Hid (res = after r0 S (getR (K - j) (t.drop (S - 1))))) (fun _ _ i _ => K - (intOf i).toNat)
  case atStart => exact ⟨0, 1, [], Nat.zero_le _, rfl, rfl, hL1, Nat.le_refl _, rfl, HB1, HBe, Lib.hid (by rw [HG.out]; simp)⟩
  case round =>
    obtain ⟨j, S, r0, hj, rfl, rfl, hS, hS1, rfl, HBj, HWj, HGj⟩ := hrel
    by_cases hlt : j < K
    · have hsl := run_from (some ⟨b, off, none⟩) L c S hS
      have hbd := (HH.out.kept HWj.out).drop c S (by simp; omega)
      rw [drop_one K t S hS1] at hbd
      have hrt := HGj.out
      rw [show K - j = K - (j + 1) + 1 by omega] at hrt
      have hgv := getValue_any _ (L - S) (c - S) (t.drop (S - 1)) wr hbd (by simp; omega) (by omega) (by omega)
      generalize adv (some ⟨b, off, none⟩) c S = A' at hsl hbd hgv
      have hji : (j : Int) < (K : Int) := by omega
      cases hv : getV (t.drop (S - 1)) with
      | none =>
        have HE := Lib.hid (hrt.trans (after_none hv))
        rw [hv] at hgv
        have HV := Lib.hid hgv
        clear hgv hv hrt hbd
        go_wp2_with fail
        refine HV.out.mono ?_
        rintro e w2 ⟨rfl, hb2⟩
        have HB2 := Lib.hid (bt HWj.out hb2)
        clear hb2
        unfold gotV
        go_wp2_with fail
        go_ret3
        refine ⟨bt HB2.out (ba _ _), ?_⟩
        rw [HE.out]
        rfl
      | some p =>
        obtain ⟨v, n⟩ := p
        have HE := Lib.hid (hrt.trans (after_some hv))
        obtain ⟨hn1, hn2, hok⟩ := getV_some hv
        rw [List.length_drop] at hn2
        rw [hv] at hgv
        have HV := Lib.hid hgv
        clear hgv hv hrt hbd
        go_wp2_with fail
        refine HV.out.mono ?_
        rintro e w2 ⟨rfl, hb2⟩
        have HB2 := Lib.hid (bt HWj.out hb2)
        have HR2 := Lib.hid (HBj.out.kept hb2)
        clear hb2
        unfold gotV
        go_wp2_with (at_builtin; refine wpList_pushV rfl (.tmp 40) (.tmp 42) rfl w.heap.size w.heap.size K j r0 v _ rfl (HR2.out.alloc _) _ rfl (World.size_alloc _ _) ?c2 ?_)
        case c2 => omega
        intro w3 hb3 hB3 hz3
        have HB3 := Lib.hid hb3
        have HW3 := Lib.hid ((bt HB2.out (ba _ _)).trans hB3)
        clear hb3 hB3
        go_wp2_with fail
        go_roundw
        case rel => exact ⟨j + 1, S + n, r0 ++ [v], by omega, by go_num, by go_num, by omega, by omega, rfl, HB3, HW3, Lib.hid (by rw [HE.out, List.drop_drop]; congr 3; omega)⟩
        case measure => simp [intOf]; omega
    · obtain rfl : j = K := by omega
      have HE := Lib.hid (show res = some (r0, S) by rw [HGj.out]; simp [getR, after])
      go_wp2_with fail
      go_ret3
      refine ⟨HWj.out, ?_⟩
      rw [HE.out]
      exact ⟨some ⟨w.heap.size, 0, none⟩, j, by simp [HBj.out.len], HBj.out.row, (fun hh => by cases hh), HBj.out.typed⟩

theorem get_anyT (A : Option Addr) (L c : Nat) (bs : List Int) (w : World) (h : BytesAt w A bs) (hL : bs.length = L) (hc : L ≤ c) (h63 : L ≤ 9223372036854775807) :
    Calls Try.prog 86 #[.slice A L c] w (GetEndT w (getRow bs)) := by
  cases bs with
  | nil =>
    subst hL
    refine (get_nil A c w).mono ?_
    rintro e w' ⟨rfl, rfl⟩
    exact ⟨Below.refl _ _, rfl⟩
  | cons k t =>
    obtain ⟨b, off, rfl, hb, c0, k0, k1⟩ := at_nil h rfl
    obtain ⟨K, rfl⟩ := Int.eq_ofNat_of_zero_le k0
    simp only [List.length_cons] at hL
    by_cases hk : (32 : Int) < K
    · refine (get_large b off L c K w (by omega) c0 hk k1).mono ?_
      rintro e w' ⟨rfl, rfl⟩
      refine ⟨Below.refl _ _, ?_⟩
      rw [show getRow ((K : Int) :: t) = none by simp only [getRow, if_pos hk]]
    · exact get_some _ L c K t w h hL hc h63 (by omega)

theorem get_any (A : Option Addr) (L c : Nat) (bs : List Int) (w : World) (h : BytesAt w A bs) (hL : bs.length = L) (hc : L ≤ c) (h63 : L ≤ 9223372036854775807) :
    Calls Try.prog 86 #[.slice A L c] w (GetEnd w (getRow bs)) :=
  (get_anyT A L c bs w h hL hc h63).mono fun _ _ h => h.plain

end Go.Proofs.Ytdjhoiamongdaaa
