/- The walks over Do and Small: acts. -/
import Derived.Test.YtflkglnmenbmaaaDiskJ
namespace Go.Proofs.Ytflkglnmenbmaaa.Disk
open Go.RowKit Go.Lib

/-- An act, as data. -/
structure AC where
  kind : Int
  n : Int
  name : ByteArray
  arg : ByteArray
  half : Bool
  keep : Nat → Option Int
def doS (st : DS) (a : AC) : DS :=
  if a.kind = 1 then appS st a.name a.arg else if a.kind = 2 then syncS st a.name else if a.kind = 3 then cutS st a.name a.n else if a.kind = 4 then renS st a.name a.arg else
  if a.kind = 5 then fuseS st a.n a.half else if a.kind = 6 then crashS st a.keep else st
def doE (st : DS) (a : AC) : Int :=
  if a.kind = 1 then appE st a.name a.arg else if a.kind = 2 then syncE st a.name else if a.kind = 3 then cutE st a.name a.n else if a.kind = 4 then renE st a.name a.arg else
  if a.kind = 5 then 0 else if a.kind = 6 then 0 else readE st a.name
def doR (st : DS) (a : AC) : ByteArray := if 1 ≤ a.kind ∧ a.kind ≤ 6 then ⟨#[]⟩ else readS st a.name
abbrev doV (st : DS) (a : AC) : Value := .tuple #[.string (doR st a), .int .i64 (doE st a)]
/-- An act in memory: its slice of numbers. -/
structure ActIs (w : World) (a : AC) (ka : Option Addr) (kn : Nat) (Z : Nat → Int) : Prop where
  name : a.name.size ≤ maxLen
  arg : a.arg.size ≤ maxLen
  n : -9223372036854775808 ≤ a.n ∧ a.n ≤ 9223372036854775807
  ints : Ints w ka kn Z
  few : kn ≤ maxLen
  keep : a.keep = keepOf kn Z
theorem ints_below {w w' : World} {a : Option Addr} {n : Nat} {Z : Nat → Int} (h : Ints w a n Z) (hb : Below w.heap.size w w') : Ints w' a n Z := fun j hj => by
  obtain ⟨b, off, e, hlt, hc⟩ := h j hj
  exact ⟨b, off, e, Nat.lt_of_lt_of_le hlt hb.size, ((bcell hb).1 b _ hlt).trans hc⟩
set_option maxRecDepth 100000 in
set_option maxHeartbeats 2000000 in
theorem do_any (Q : Nat) (v : Value) (st : DS) (a : AC) (ka : Option Addr) (kn kc : Nat) (Z : Nat → Int) (w : World) (h : RD w Q v st) (ho : st.ops + 1 ≤ 1048576) (hf : st.fs.length ≤ st.ops) (hA : ActIs w a ka kn Z) :
    Calls Try.prog 12 #[.pointer (some ⟨Q, 0, none⟩), .agg #[.int .i64 a.kind, .int .i64 a.n, .string a.name, .string a.arg, .bool a.half, .slice ka kn kc]] w fun e w' => e = .returned (doV st a) ∧ ∃ v', RD w' Q v' (doS st a) ∧ Step w w' Q v v' := by
  have hal : Below w.heap.size w (w.alloc (.cells #[.int .i64 a.kind, .int .i64 a.n, .string a.name, .string a.arg, .bool a.half, .slice ka kn kc] 36)) := (Below.refl _ w).alloc (Nat.le_refl _) _
  have hr0 := h.below hal
  have HS0 := Lib.hid (step_below Q v hal)
  have hints := ints_below hA.ints hal
  by_cases k1 : a.kind = 1
  · have hV : doV st a = .tuple #[.string ⟨#[]⟩, .int .i64 (appE st a.name a.arg)] := by unfold doV doR doE; rw [if_pos (by omega), if_pos k1]
    have hS : doS st a = appS st a.name a.arg := by unfold doS; rw [if_pos k1]
    rw [hV, hS]
    rw [k1] at hr0 HS0 ⊢
    have HC := Lib.hid (append_any Q v st a.name a.arg _ hr0 ho hf hA.name hA.arg)
    clear hal hr0 hints hV hS h
    go_enter Try.func12, Try.ntmps12
    go_wp2_with fail
    refine HC.out.mono ?_
    rintro e w1 ⟨rfl, v1, hr1, hs1⟩
    have HR1 := Lib.hid hr1; have HS1 := Lib.hid (HS0.out.trans hs1)
    clear hr1 hs1
    go_wp2_with fail
    go_ret2
    exact ⟨rfl, v1, HR1.out, HS1.out⟩
  by_cases k2 : a.kind = 2
  · have hV : doV st a = .tuple #[.string ⟨#[]⟩, .int .i64 (syncE st a.name)] := by unfold doV doR doE; rw [if_pos (by omega), if_neg k1, if_pos k2]
    have hS : doS st a = syncS st a.name := by unfold doS; rw [if_neg k1, if_pos k2]
    rw [hV, hS]
    rw [k2] at hr0 HS0 ⊢
    have HC := Lib.hid (sync_any Q v st a.name _ hr0 ho)
    clear hal hr0 hints hV hS h k1
    go_enter Try.func12, Try.ntmps12
    go_wp2_with fail
    refine HC.out.mono ?_
    rintro e w1 ⟨rfl, v1, hr1, hs1⟩
    have HR1 := Lib.hid hr1; have HS1 := Lib.hid (HS0.out.trans hs1)
    clear hr1 hs1
    go_wp2_with fail
    go_ret2
    exact ⟨rfl, v1, HR1.out, HS1.out⟩
  by_cases k3 : a.kind = 3
  · have hV : doV st a = .tuple #[.string ⟨#[]⟩, .int .i64 (cutE st a.name a.n)] := by unfold doV doR doE; rw [if_pos (by omega), if_neg k1, if_neg k2, if_pos k3]
    have hS : doS st a = cutS st a.name a.n := by unfold doS; rw [if_neg k1, if_neg k2, if_pos k3]
    rw [hV, hS]
    rw [k3] at hr0 HS0 ⊢
    have HC := Lib.hid (cut_any Q v st a.name a.n _ hr0 ho hA.n)
    clear hal hr0 hints hV hS h k1 k2
    go_enter Try.func12, Try.ntmps12
    go_wp2_with fail
    refine HC.out.mono ?_
    rintro e w1 ⟨rfl, v1, hr1, hs1⟩
    have HR1 := Lib.hid hr1; have HS1 := Lib.hid (HS0.out.trans hs1)
    clear hr1 hs1
    go_wp2_with fail
    go_ret2
    exact ⟨rfl, v1, HR1.out, HS1.out⟩
  by_cases k4 : a.kind = 4
  · have hV : doV st a = .tuple #[.string ⟨#[]⟩, .int .i64 (renE st a.name a.arg)] := by unfold doV doR doE; rw [if_pos (by omega), if_neg k1, if_neg k2, if_neg k3, if_pos k4]
    have hS : doS st a = renS st a.name a.arg := by unfold doS; rw [if_neg k1, if_neg k2, if_neg k3, if_pos k4]
    rw [hV, hS]
    rw [k4] at hr0 HS0 ⊢
    have HC := Lib.hid (rename_any Q v st a.name a.arg _ hr0 ho hA.arg)
    clear hal hr0 hints hV hS h k1 k2 k3
    go_enter Try.func12, Try.ntmps12
    go_wp2_with fail
    refine HC.out.mono ?_
    rintro e w1 ⟨rfl, v1, hr1, hs1⟩
    have HR1 := Lib.hid hr1; have HS1 := Lib.hid (HS0.out.trans hs1)
    clear hr1 hs1
    go_wp2_with fail
    go_ret2
    exact ⟨rfl, v1, HR1.out, HS1.out⟩
  by_cases k5 : a.kind = 5
  · have hV : doV st a = .tuple #[.string ⟨#[]⟩, .int .i64 0] := by unfold doV doR doE; rw [if_pos (by omega), if_neg k1, if_neg k2, if_neg k3, if_neg k4, if_pos k5]
    have hS : doS st a = fuseS st a.n a.half := by unfold doS; rw [if_neg k1, if_neg k2, if_neg k3, if_neg k4, if_pos k5]
    rw [hV, hS]
    rw [k5] at hr0 HS0 ⊢
    have HC := Lib.hid (fuse_any Q v st a.n a.half _ hr0 hA.n)
    clear hal hr0 hints hV hS h k1 k2 k3 k4
    go_enter Try.func12, Try.ntmps12
    go_wp2_with fail
    refine HC.out.mono ?_
    rintro e w1 ⟨rfl, hr1, hs1⟩
    have HR1 := Lib.hid hr1; have HS1 := Lib.hid (HS0.out.trans hs1)
    clear hr1 hs1
    go_wp2_with fail
    go_ret2
    exact ⟨rfl, v, HR1.out, HS1.out⟩
  by_cases k6 : a.kind = 6
  · have hV : doV st a = .tuple #[.string ⟨#[]⟩, .int .i64 0] := by unfold doV doR doE; rw [if_pos (by omega), if_neg k1, if_neg k2, if_neg k3, if_neg k4, if_neg k5, if_pos k6]
    have hS : doS st a = crashS st (keepOf kn Z) := by unfold doS; rw [if_neg k1, if_neg k2, if_neg k3, if_neg k4, if_neg k5, if_pos k6, hA.keep]
    rw [hV, hS]
    rw [k6] at hr0 HS0 hints ⊢
    have HC := Lib.hid (crash_any Q v st ka kn kc Z _ hr0 (by omega) hints hA.few)
    clear hal hr0 hints hV hS h k1 k2 k3 k4 k5
    go_enter Try.func12, Try.ntmps12
    go_wp2_with fail
    refine HC.out.mono ?_
    rintro e w1 ⟨rfl, v1, hr1, hs1⟩
    have HR1 := Lib.hid hr1; have HS1 := Lib.hid (HS0.out.trans hs1)
    clear hr1 hs1
    go_wp2_with fail
    go_ret2
    exact ⟨rfl, v1, HR1.out, HS1.out⟩
  · have hV : doV st a = readV st a.name := by unfold doV doR doE; rw [if_neg (by omega), if_neg k1, if_neg k2, if_neg k3, if_neg k4, if_neg k5, if_neg k6]
    have hS : doS st a = st := by unfold doS; rw [if_neg k1, if_neg k2, if_neg k3, if_neg k4, if_neg k5, if_neg k6]
    rw [hV, hS]
    have HC := Lib.hid (read_any Q v st a.name _ hr0 (by omega))
    have HR0 := Lib.hid hr0
    clear hal hr0 hints hV hS h
    go_enter Try.func12, Try.ntmps12
    go_wp2_with fail
    refine HC.out.mono ?_
    rintro e w1 ⟨rfl, rfl⟩
    go_wp2_with fail
    go_ret2
    exact ⟨rfl, v, HR0.out, HS0.out⟩
/-- The acts of a slice: six cells each. -/
structure Acts (w : World) (aa : Option Addr) (an : Nat) (A : Nat → AC) (KA : Nat → Option Addr) (KN KC : Nat → Nat) (KZ : Nat → Nat → Int) : Prop where
  is : ∀ j, j < an → ActIs w (A j) (KA j) (KN j) (KZ j)
  cells : ∀ j, j < an → ∃ b off, aa = some ⟨b, off, none⟩ ∧ b < w.heap.size ∧ w.cell? ⟨b, off + j * 6, none⟩ = some (.int .i64 (A j).kind) ∧ w.cell? ⟨b, off + j * 6 + 1, none⟩ = some (.int .i64 (A j).n) ∧
    w.cell? ⟨b, off + j * 6 + 2, none⟩ = some (.string (A j).name) ∧ w.cell? ⟨b, off + j * 6 + 3, none⟩ = some (.string (A j).arg) ∧ w.cell? ⟨b, off + j * 6 + 4, none⟩ = some (.bool (A j).half) ∧ w.cell? ⟨b, off + j * 6 + 5, none⟩ = some (.slice (KA j) (KN j) (KC j))
def small (A : Nat → AC) (KN : Nat → Nat) (j : Nat) : Prop := (A j).name.size ≤ 40 ∧ (A j).arg.size ≤ 200 ∧ KN j ≤ 20
instance (A : Nat → AC) (KN : Nat → Nat) (j : Nat) : Decidable (small A KN j) := inferInstanceAs (Decidable (_ ∧ _))
set_option maxRecDepth 100000 in
set_option maxHeartbeats 1000000 in
theorem small_yes (most : Nat) (aa : Option Addr) (an ac : Nat) (A : Nat → AC) (KA : Nat → Option Addr) (KN KC : Nat → Nat) (KZ : Nat → Nat → Int) (w : World) (h : Acts w aa an A KA KN KC KZ) (hl : an ≤ most) (hm : most ≤ 1048576) (hs : ∀ j, j < an → small A KN j) :
    Calls Try.prog 7 #[.slice aa an ac, .int .i64 (most : Nat)] w fun e w' => e = .returned (.bool true) ∧ w = w' := by
  have HA := Lib.hid h; have HS := Lib.hid hs
  clear h hs
  go_enter Try.func7, Try.ntmps7
  go_wp2_with fail
  go_loop [5] (fun i => ∃ k : Nat, k ≤ an ∧ i = .int .i64 k) (fun i => an - (RowKit.intOf i).toNat)
  case atStart => exact ⟨0, by omega, rfl⟩
  case round =>
    obtain ⟨k, hk, rfl⟩ := hrel
    by_cases hlt : k < an
    · obtain ⟨b, off, rfl, hb, c0, c1, c2, c3, c4, c5⟩ := HA.out.cells k hlt
      obtain ⟨s1, s2, s3⟩ := HS.out k hlt
      have hkm : k < most := by omega
      clear c0 c1 c4
      go_wp2_with fail
      go_round
      case rel => exact ⟨k + 1, by omega, by go_num⟩
      case measure => simp [RowKit.intOf]; omega
    · go_wp2_with fail
      go_ret
      exact ⟨rfl, rfl⟩
set_option maxRecDepth 100000 in
set_option maxHeartbeats 1000000 in
theorem small_no (most : Nat) (aa : Option Addr) (an ac : Nat) (A : Nat → AC) (KA : Nat → Option Addr) (KN KC : Nat → Nat) (KZ : Nat → Nat → Int) (w : World) (h : Acts w aa an A KA KN KC KZ) (hl : an ≤ maxLen) (hm : most ≤ 1048576) (hs : ¬ (an ≤ most ∧ ∀ j, j < an → small A KN j)) :
    Calls Try.prog 7 #[.slice aa an ac, .int .i64 (most : Nat)] w fun e w' => e = .returned (.bool false) ∧ w = w' := by
  unfold maxLen at hl
  have HA := Lib.hid h; have HS := Lib.hid hs
  clear h hs
  go_enter Try.func7, Try.ntmps7
  go_wp2_with fail
  go_loop [5] (fun i => ∃ k : Nat, k ≤ an ∧ k ≤ most ∧ Hid (∀ j, j < k → small A KN j) ∧ i = .int .i64 k) (fun i => an - (RowKit.intOf i).toNat)
  case atStart => exact ⟨0, by omega, by omega, Lib.hid (fun j hj => by omega), rfl⟩
  case round =>
    obtain ⟨k, hk, hk2, hall, rfl⟩ := hrel
    by_cases hlt : k < an
    · by_cases hkm : k < most
      · obtain ⟨b, off, rfl, hb, c0, c1, c2, c3, c4, c5⟩ := HA.out.cells k hlt
        have hAk := HA.out.is k hlt
        have hn1 := hAk.name; have hn2 := hAk.arg; have hn3 := hAk.few
        unfold maxLen at hn1 hn2 hn3
        clear c0 c1 c4 hAk
        by_cases s1 : (A k).name.size ≤ 40
        · by_cases s2 : (A k).arg.size ≤ 200
          · by_cases s3 : KN k ≤ 20
            · have HA2 : Hid (∀ j, j < k + 1 → small A KN j) := Lib.hid (fun j hj => by
                rcases Nat.lt_or_ge j k with h | h
                · exact hall.out j h
                · obtain rfl : j = k := by omega
                  exact ⟨s1, s2, s3⟩)
              go_wp2_with fail
              go_round
              case rel => exact ⟨k + 1, by omega, by omega, HA2, by go_num⟩
              case measure => simp [RowKit.intOf]; omega
            · have s3' : 20 < KN k := by omega
              go_wp2_with fail
              go_ret
              exact ⟨rfl, rfl⟩
          · have s2' : 200 < (A k).arg.size := by omega
            go_wp2_with fail
            go_ret
            exact ⟨rfl, rfl⟩
        · have s1' : 40 < (A k).name.size := by omega
          go_wp2_with fail
          go_ret
          exact ⟨rfl, rfl⟩
      · go_wp2_with fail
        go_ret
        exact ⟨ret_bool (decide_eq_false (by omega)), rfl⟩
    · have hlM : most < an := by
        rcases Nat.lt_or_ge most an with h | h
        · exact h
        · obtain rfl : k = an := by omega
          exact absurd ⟨h, hall.out⟩ HS.out
      exfalso
      omega
end Go.Proofs.Ytflkglnmenbmaaa.Disk
