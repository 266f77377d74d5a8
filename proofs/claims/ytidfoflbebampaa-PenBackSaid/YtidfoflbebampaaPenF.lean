/- The document's reader walked: its methods answer what package pen's do, as long as both stand at the same place. -/
import Derived.Test.YtidfoflbebampaaPenE
namespace Go.Proofs.Ytidfoflbebampaa
open Go.RowKit Go.Lib

theorem extract_extract (S : ByteArray) (a k : Nat) : (S.extract a S.size).extract k (S.extract a S.size).size = S.extract (a + k) S.size := by
  apply ByteArray.ext
  rw [ByteArray.data_extract, ByteArray.data_extract, ByteArray.data_extract, Array.extract_extract]
  congr 1
  simp only [ByteArray.size_extract]
  omega
theorem extract_front (S : ByteArray) (a n : Nat) (h : a + n ≤ S.size) : (S.extract a S.size).extract 0 n = S.extract a (a + n) := by
  apply ByteArray.ext
  rw [ByteArray.data_extract, ByteArray.data_extract, ByteArray.data_extract, Array.extract_extract]
  congr 1
  omega
/-- Both readers stand at the same place. -/
def Link (S : ByteArray) (st : Option ByteArray) (a : Nat) : Prop := a ≤ S.size ∧ ∀ s, st = some s → s = S.extract a S.size
theorem Link.none {S : ByteArray} {a : Nat} (h : a ≤ S.size) : Link S none a := ⟨h, fun _ e => by simp at e⟩
theorem Link.cut {S s : ByteArray} {a : Nat} (h : Link S (some s) a) {k : Nat} (hk : k ≤ s.size) : Link S (some (s.extract k s.size)) (a + k) := by
  have e := h.2 s rfl
  have hs : s.size = S.size - a := by rw [e, ByteArray.size_extract]; omega
  have := h.1
  refine ⟨by omega, fun t ht => ?_⟩
  injection ht with ht
  rw [← ht, e, extract_extract]
def wdN (st : Option ByteArray) : Nat := match st with | none => 0 | some s => FV s
def wdS (st : Option ByteArray) : Option ByteArray := match st with | none => none | some s => if FK s = 0 then none else some (s.extract (FK s) s.size)
theorem FV_zero {s : ByteArray} (h : FK s = 0) : FV s = 0 := by
  unfold FK at h; unfold FV
  cases e : P s with
  | none => rfl
  | some x => obtain ⟨n, m⟩ := x; rw [e] at h; have := P_facts e; simp at h; omega
theorem tk_wd (st : Option ByteArray) : tkN st 18446744073709551615 = wdN st ∧ tkS st 18446744073709551615 = wdS st := by
  cases st with
  | none => exact ⟨rfl, rfl⟩
  | some s =>
    have := FV_lt s
    unfold tkN tkS wdN wdS
    simp only []
    by_cases h : FK s = 0
    · rw [if_pos (Or.inl h), if_pos (Or.inl h), if_pos h, FV_zero h]; exact ⟨rfl, rfl⟩
    · rw [if_neg (by omega), if_neg (by omega), if_neg h]; exact ⟨rfl, rfl⟩
theorem wdN_lt (st : Option ByteArray) : wdN st < 18446744073709551616 := by
  cases st with
  | none => simp [wdN]
  | some s => exact FV_lt s
theorem ui_fail (st : Option ByteArray) (most : Int) (h : most < wdN st ∨ wdS st = none) : uiN st most = 0 ∧ uiS st most = none := by
  unfold uiN uiS
  by_cases hneg : most < 0
  · rw [if_pos hneg, if_pos hneg]; exact ⟨rfl, rfl⟩
  · rw [if_neg hneg, if_neg hneg]
    cases st with
    | none => exact ⟨rfl, rfl⟩
    | some s =>
      unfold tkN tkS
      simp only [wdN, wdS] at h ⊢
      have hc : FK s = 0 ∨ most.toNat < FV s := by
        rcases h with h | h
        · right; omega
        · left
          by_cases h0 : FK s = 0
          · exact h0
          · rw [if_neg h0] at h; simp at h
      rw [if_pos hc, if_pos hc]; exact ⟨rfl, rfl⟩
theorem ui_ok (st : Option ByteArray) (most : Int) (h : (wdN st : Int) ≤ most) (t : ByteArray) (ht : wdS st = some t) : uiN st most = wdN st ∧ uiS st most = some t := by
  unfold uiN uiS
  rw [if_neg (by omega), if_neg (by omega)]
  cases st with
  | none => simp [wdS] at ht
  | some s =>
    unfold tkN tkS
    simp only [wdN, wdS] at h ht ⊢
    by_cases h0 : FK s = 0
    · rw [if_pos h0] at ht; simp at ht
    · rw [if_neg h0] at ht
      rw [if_neg (by omega), if_neg (by omega)]; exact ⟨rfl, ht⟩
theorem ui_none {st : Option ByteArray} {most : Int} (h : uiS st most = none) : uiN st most = 0 := by
  by_cases hc : most < wdN st ∨ wdS st = none
  · exact (ui_fail st most hc).1
  · cases e : wdS st with
    | none => exact absurd (Or.inr e) hc
    | some t => rw [(ui_ok st most (by omega) t e).2] at h; simp at h

/-- What the document's reader leaves behind. -/
def RqTo (w w' : World) (Q : Nat) (S : ByteArray) (st : Option ByteArray) : Prop := (∃ a, Rq w' Q S a (isBad st) ∧ Link S st a) ∧ w.grownBy w' (some Q)

theorem rword_any (Q : Nat) (S : ByteArray) (st : Option ByteArray) (a : Nat) (w : World) (h : Rq w Q S a (isBad st)) (hl : Link S st a) (hS : S.size ≤ 4611686018427387904) :
    Calls Try.prog 34 #[.pointer (some ⟨Q, 0, none⟩)] w fun e w' => e = .returned (.int .u64 (wdN st)) ∧ RqTo w w' Q S (wdS st) := by
  cases st with
  | none => exact (rword_bad Q S a w h).mono fun e w' ⟨he, h', hg⟩ => ⟨he, ⟨a, h', Link.none hl.1⟩, hg⟩
  | some s =>
    have e := hl.2 s rfl
    refine (rword_good Q S a w h hl.1 hS (P s) (by rw [e, P_at])).mono fun e w' ⟨he, h', hg⟩ => ⟨he, ?_, hg⟩
    cases hp : P s with
    | none =>
      have hk : FK s = 0 := by simp [FK, hp]
      rw [hp] at h'
      have hS' : wdS (some s) = none := by simp [wdS, hk]
      rw [hS']
      exact ⟨a, h', Link.none hl.1⟩
    | some x =>
      obtain ⟨n, k⟩ := x
      have hk : FK s = k := by simp [FK, hp]
      have := P_facts hp
      rw [hp] at h'
      have hS' : wdS (some s) = some (s.extract k s.size) := by unfold wdS; simp only []; rw [if_neg (by omega), hk]
      rw [hS']
      exact ⟨a + k, h', hl.cut (by omega)⟩

set_option maxHeartbeats 1000000 in
theorem ruint_any (Q : Nat) (S : ByteArray) (st : Option ByteArray) (a : Nat) (most : Int) (w : World) (h : Rq w Q S a (isBad st)) (hl : Link S st a) (hS : S.size ≤ 4611686018427387904) (hm : most ≤ 9223372036854775807) :
    Calls Try.prog 16 #[.pointer (some ⟨Q, 0, none⟩), .int .i64 most] w fun e w' => e = .returned (.int .i64 (uiN st most)) ∧ RqTo w w' Q S (uiS st most) := by
  obtain ⟨n, hn⟩ : ∃ n, wdN st = n := ⟨_, rfl⟩
  have hlt := wdN_lt st
  rw [hn] at hlt
  have HN := Lib.hid hn
  by_cases h1 : 9223372036854775807 < n
  · obtain ⟨hN, hSt⟩ := ui_fail st most (Or.inl (by omega))
    have HNN := Lib.hid hN; have HSS := Lib.hid hSt
    clear hN hSt hn
    go_enter Try.func16, Try.ntmps16
    go_wp2_with fail
    refine (rword_any Q S st a _ h hl hS).mono ?_
    rintro e w1 ⟨rfl, ⟨a1, H1, hl1⟩, hg1⟩
    rw [HN.out]
    go_wp2_with fail
    refine (fails_any Q S a1 _ _ H1).mono ?_
    rintro e w2 ⟨rfl, H2, hg2⟩
    go_wp2_with fail
    go_ret
    exact ⟨ret_i64 (by rw [HNN.out]; rfl), by rw [HSS.out]; exact ⟨⟨a1, H2, Link.none hl1.1⟩, only_trans hg1 hg2⟩⟩
  · by_cases h2 : most < n
    · obtain ⟨hN, hSt⟩ := ui_fail st most (Or.inl (by omega))
      have HNN := Lib.hid hN; have HSS := Lib.hid hSt
      have hle : n ≤ 9223372036854775807 := by omega
      have hd1 : decide (9223372036854775807 < n) = false := by simp; omega
      have hd2 : decide (most < n) = true := by simp; omega
      clear hN hSt hn h1
      go_enter Try.func16, Try.ntmps16
      go_wp2_with fail
      refine (rword_any Q S st a _ h hl hS).mono ?_
      rintro e w1 ⟨rfl, ⟨a1, H1, hl1⟩, hg1⟩
      rw [HN.out]
      go_wp2_with fail
      refine (fails_any Q S a1 _ _ H1).mono ?_
      rintro e w2 ⟨rfl, H2, hg2⟩
      go_wp2_with fail
      go_ret
      exact ⟨ret_i64 (by rw [HNN.out]; rfl), by rw [HSS.out]; exact ⟨⟨a1, H2, Link.none hl1.1⟩, only_trans hg1 hg2⟩⟩
    · have hle : n ≤ 9223372036854775807 := by omega
      have hle2 : (n : Int) ≤ most := by omega
      have hd1 : decide (9223372036854775807 < n) = false := by simp; omega
      have hd2 : decide (most < n) = false := by simp; omega
      cases hs : wdS st with
      | none =>
        obtain ⟨hN, hSt⟩ := ui_fail st most (Or.inr hs)
        have HNN := Lib.hid hN; have HSS := Lib.hid hSt; have HS := Lib.hid hs
        clear hN hSt hn h1 h2 hs
        go_enter Try.func16, Try.ntmps16
        go_wp2_with fail
        refine (rword_any Q S st a _ h hl hS).mono ?_
        rintro e w1 ⟨rfl, ⟨a1, H1, hl1⟩, hg1⟩
        rw [HN.out]
        rw [HS.out] at H1
        obtain ⟨c0, c1, c2, f0, f1, f2⟩ := H1.cells
        have c2' : w1.cell? ⟨Q, 2, none⟩ = some (.bool true) := c2
        clear c2
        go_wp2_with fail
        refine (fails_any Q S a1 _ _ H1).mono ?_
        rintro e w2 ⟨rfl, H2, hg2⟩
        go_wp2_with fail
        go_ret
        exact ⟨ret_i64 (by rw [HNN.out]; rfl), by rw [HSS.out]; exact ⟨⟨a1, H2, Link.none hl1.1⟩, only_trans hg1 hg2⟩⟩
      | some t =>
        obtain ⟨hN, hSt⟩ := ui_ok st most (by omega) t hs
        rw [hn] at hN
        have HNN := Lib.hid hN; have HSS := Lib.hid hSt; have HS := Lib.hid hs
        clear hN hSt hn h1 h2 hs
        go_enter Try.func16, Try.ntmps16
        go_wp2_with fail
        refine (rword_any Q S st a _ h hl hS).mono ?_
        rintro e w1 ⟨rfl, ⟨a1, H1, hl1⟩, hg1⟩
        rw [HN.out]
        rw [HS.out] at H1 hl1
        obtain ⟨c0, c1, c2, f0, f1, f2⟩ := H1.cells
        have c2' : w1.cell? ⟨Q, 2, none⟩ = some (.bool false) := c2
        clear c2
        go_wp2_with fail
        go_ret
        exact ⟨ret_i64 (by rw [HNN.out]), by rw [HSS.out]; exact ⟨⟨a1, H1, hl1⟩, hg1⟩⟩
theorem rint_any (Q : Nat) (S : ByteArray) (st : Option ByteArray) (a : Nat) (w : World) (h : Rq w Q S a (isBad st)) (hl : Link S st a) (hS : S.size ≤ 4611686018427387904) :
    Calls Try.prog 18 #[.pointer (some ⟨Q, 0, none⟩)] w fun e w' => e = .returned (.int .i64 (inN st)) ∧ RqTo w w' Q S (inS st) := by
  obtain ⟨n, hn⟩ : ∃ n, wdN st = n := ⟨_, rfl⟩
  have hlt := wdN_lt st
  obtain ⟨e1, e2⟩ := tk_wd st
  have hN : inN st = placedOf n := by unfold inN; rw [e1, hn]
  have hSt : inS st = wdS st := by unfold inS; rw [e2]
  rw [hn] at hlt
  have HN := Lib.hid hn; have HNN := Lib.hid hN; have HSS := Lib.hid hSt
  clear hN hSt e1 e2 hn
  by_cases h2 : n % 2 = 1
  · have hd : ((n : Int) % 2 == 0) = false := by simp; omega
    go_enter Try.func18, Try.ntmps18
    go_wp2_with fail
    refine (rword_any Q S st a _ h hl hS).mono ?_
    rintro e w1 ⟨rfl, ⟨a1, H1, hl1⟩, hg1⟩
    rw [HN.out]
    go_wp2_with fail
    go_ret
    exact ⟨ret_i64 (by rw [HNN.out]; unfold placedOf; rw [if_pos (by omega)]; omega), by rw [HSS.out]; exact ⟨⟨a1, H1, hl1⟩, hg1⟩⟩
  · have hd : ((n : Int) % 2 == 0) = true := by simp; omega
    go_enter Try.func18, Try.ntmps18
    go_wp2_with fail
    refine (rword_any Q S st a _ h hl hS).mono ?_
    rintro e w1 ⟨rfl, ⟨a1, H1, hl1⟩, hg1⟩
    rw [HN.out]
    go_wp2_with fail
    go_ret
    exact ⟨ret_i64 (by rw [HNN.out]; unfold placedOf; rw [if_neg (by omega)]; omega), by rw [HSS.out]; exact ⟨⟨a1, H1, hl1⟩, hg1⟩⟩
end Go.Proofs.Ytidfoflbebampaa
