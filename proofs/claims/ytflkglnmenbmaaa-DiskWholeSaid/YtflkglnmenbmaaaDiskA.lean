/- The document's disk in memory, and the walks over what only reads it. -/
import Derived.Test.YtflkglnmenbmaaaRows
import Derived.Test.YtflkglnmenbmaaaDiskMath
import Derived.Laws.OwnMore
import Derived.Laws.StructEq
import Derived.BigQuiet
import Derived.RegionTactic
namespace Go.Proofs.Ytflkglnmenbmaaa.Disk
open Go.RowKit Go.Lib

def fileCells (f : DF) : List Value := [.string f.name, .string f.bytes, .int .i64 (f.sure : Int)]
def cells (l : List DF) : List Value := l.flatMap fileCells
theorem cells_cons (f : DF) (l : List DF) : cells (f :: l) = fileCells f ++ cells l := by simp [cells]
theorem cells_snoc (l : List DF) (f : DF) : cells (l ++ [f]) = cells l ++ fileCells f := by simp [cells]
theorem cells_length : ∀ l : List DF, (cells l).length = l.length * 3
  | [] => rfl
  | f :: l => by rw [cells_cons, List.length_append, cells_length l]; simp [fileCells]; omega
theorem cells_at : ∀ (l : List DF) (k : Nat) (f : DF), l[k]? = some f → (cells l)[k * 3]? = some (.string f.name) ∧ (cells l)[k * 3 + 1]? = some (.string f.bytes) ∧ (cells l)[k * 3 + 2]? = some (.int .i64 (f.sure : Int))
  | [], k, f, h => by simp at h
  | a :: l, 0, f, h => by
    have : a = f := by simpa using h
    subst this
    rw [cells_cons]
    exact ⟨rfl, rfl, rfl⟩
  | a :: l, k + 1, f, h => by
    obtain ⟨h0, h1, h2⟩ := cells_at l k f (by simpa using h)
    rw [cells_cons]
    refine ⟨?_, ?_, ?_⟩
    · rw [show (k + 1) * 3 = k * 3 + 3 by omega, List.getElem?_append_right (by simp [fileCells])]
      simpa [fileCells] using h0
    · rw [show (k + 1) * 3 + 1 = k * 3 + 1 + 3 by omega, List.getElem?_append_right (by simp [fileCells])]
      simpa [fileCells] using h1
    · rw [show (k + 1) * 3 + 2 = k * 3 + 2 + 3 by omega, List.getElem?_append_right (by simp [fileCells])]
      simpa [fileCells] using h2

/-- The disk lies at block Q, its files in the row of v. -/
structure RD (w : World) (Q : Nat) (v : Value) (st : DS) : Prop where
  block : w.heap[Q]? = some (.cells #[v, .int .i64 (st.room : Int), .int .i64 (st.ops : Int), .int .i64 (st.last : Int), .bool st.half, .bool st.dead] 41 (0, 0))
  row : w.ownsRow 0 65 3 v st.fs.length (cells st.fs)
  good : Good st
theorem RD.lt {w : World} {Q : Nat} {v : Value} {st : DS} (h : RD w Q v st) : Q < w.heap.size := (Array.getElem?_eq_some_iff.1 h.block).1
/-- The row opened: where a file's cells lie. -/
theorem RD.rowed {w : World} {Q : Nat} {v : Value} {st : DS} (h : RD w Q v st) : ∃ a cap, v = .slice a st.fs.length cap ∧ st.fs.length ≤ cap ∧ (∀ b, a = some b → v.ownBlock = some b.block) ∧
    ∀ (k : Nat) (f : DF), st.fs[k]? = some f → ∃ g, a = some ⟨g, 0, none⟩ ∧ g < w.heap.size ∧ g ≠ Q ∧ w.cell? ⟨g, k * 3, none⟩ = some (.string f.name) ∧ w.cell? ⟨g, k * 3 + 1, none⟩ = some (.string f.bytes) ∧ w.cell? ⟨g, k * 3 + 2, none⟩ = some (.int .i64 (f.sure : Int)) := by
  rcases h.row.2 with ⟨hv, h0⟩ | ⟨g, cap, cur, hv, _, hg, hn, _⟩
  · refine ⟨none, 0, by rw [hv, h0], by omega, (fun b hb => by cases hb), fun k f hk => ?_⟩
    have := (List.getElem?_eq_some_iff.1 hk).1
    omega
  · have hne : g ≠ Q := by
      rintro rfl
      have := h.block.symm.trans hg
      simp at this
    refine ⟨some ⟨g, 0, none⟩, cap, hv, hn, fun b hb => by obtain rfl := Option.some.inj hb; rw [hv]; rfl, fun k f hk => ⟨g, rfl, (Array.getElem?_eq_some_iff.1 hg).1, hne, ?_⟩⟩
    obtain ⟨c0, c1, c2⟩ := cells_at st.fs k f hk
    have hc := h.row.cells (g := g) (by rw [hv]; rfl)
    have hadd : ∀ j, (⟨g, 0, none⟩ : Addr).add j = ⟨g, j, none⟩ := fun j => by unfold Addr.add; split <;> simp_all
    have e0 := hc _ _ c0; have e1 := hc _ _ c1; have e2 := hc _ _ c2
    rw [hadd] at e0 e1 e2
    exact ⟨e0, e1, e2⟩
theorem bytes_ne {a b : ByteArray} (h : a ≠ b) : (a.toList == b.toList) = false := by
  rw [ByteArray.toList_eq, ByteArray.toList_eq]
  exact beq_eq_false_iff_ne.2 (fun e => h (by apply ByteArray.ext; exact Array.toList_inj.1 e))
def posZ (l : List DF) (s : ByteArray) : Int := match pos l s with | some k => (k : Int) | none => -1
theorem posZ_some {l : List DF} {s : ByteArray} {k : Nat} (h : pos l s = some k) : posZ l s = (k : Int) := by unfold posZ; rw [h]
theorem posZ_none {l : List DF} {s : ByteArray} (h : pos l s = none) : posZ l s = -1 := by unfold posZ; rw [h]
set_option maxRecDepth 100000 in
set_option maxHeartbeats 1000000 in
theorem find_any (Q : Nat) (v : Value) (st : DS) (s : ByteArray) (w : World) (h : RD w Q v st) (ho : st.ops ≤ 1048576) :
    Calls Try.prog 45 #[.pointer (some ⟨Q, 0, none⟩), .string s] w fun e w' => e = .returned (.int .i64 (posZ st.fs s)) ∧ w = w' := by
  obtain ⟨a, cap, rfl, hcap, _, hrow⟩ := h.rowed
  have q0 := cell_block (j := 0) h.block rfl
  have hfew := h.good.few
  have HR := Lib.hid hrow
  clear hrow h
  obtain ⟨n, hn⟩ : ∃ n, st.fs.length = n := ⟨_, rfl⟩
  rw [hn] at q0 hcap hfew
  go_enter Try.func45, Try.ntmps45
  go_wp2_with fail
  go_loop [5] (fun i => ∃ k : Nat, k ≤ n ∧ i = .int .i64 k ∧ Hid (∀ (j : Nat), j < k → ∀ g : DF, st.fs[j]? = some g → g.name ≠ s)) (fun i => n - (RowKit.intOf i).toNat)
  case atStart => exact ⟨0, by omega, rfl, Lib.hid (fun j hj => by omega)⟩
  case round =>
    obtain ⟨k, hk, rfl, HK⟩ := hrel
    by_cases hlt : k < n
    · obtain ⟨f, hf⟩ : ∃ f, st.fs[k]? = some f := ⟨st.fs[k]'(by omega), List.getElem?_eq_getElem (by omega)⟩
      obtain ⟨g, rfl, hgl, hgq, c0, c1, c2⟩ := HR.out k f hf
      by_cases he : f.name = s
      · have HP := Lib.hid (posZ_some (pos_at hf he HK.out))
        rw [he] at c0
        go_wp2_with fail
        go_ret
        exact ⟨ret_i64 HP.out.symm, rfl⟩
      · have he3 := bytes_ne he
        have HK2 : Hid (∀ (j : Nat), j < k + 1 → ∀ g : DF, st.fs[j]? = some g → g.name ≠ s) := Lib.hid (fun j hj g' hg' => by
          rcases Nat.lt_or_ge j k with h' | h'
          · exact HK.out j h' g' hg'
          · obtain rfl : j = k := by omega
            rw [hf] at hg'
            obtain rfl := Option.some.inj hg'
            exact he)
        go_wp2_with fail
        go_round
        case rel => exact ⟨k + 1, by omega, by go_num, HK2⟩
        case measure => simp [RowKit.intOf]; omega
    · obtain rfl : k = n := by omega
      have HP := Lib.hid (posZ_none (pos_out (l := st.fs) (s := s) (fun j g hg => HK.out j (by have := (List.getElem?_eq_some_iff.1 hg).1; omega) g hg)))
      go_wp2_with fail
      go_ret
      exact ⟨ret_i64 HP.out.symm, rfl⟩
theorem isName_no {s : ByteArray} {k : Nat} (h : k < s.size) (hb : ¬ okByte s[k].toNat) : ¬ isName s := fun hn => hb (hn.1 _ (by
  rw [Array.mem_toList_iff]
  exact Array.getElem_mem h))
set_option maxRecDepth 100000 in
set_option maxHeartbeats 1000000 in
theorem name_any (s : ByteArray) (w : World) (hs : s.size ≤ maxLen) :
    Calls Try.prog 44 #[.string s] w fun e w' => e = .returned (.bool (decide (isName s))) ∧ w = w' := by
  unfold maxLen at hs
  go_enter Try.func44, Try.ntmps44
  go_wp2_with fail
  go_loop [3] (fun i => ∃ k : Nat, k ≤ s.size ∧ i = .int .i64 k ∧ Hid (∀ b ∈ s.data.toList.take k, okByte b.toNat)) (fun i => s.size - (RowKit.intOf i).toNat)
  case atStart => exact ⟨0, by omega, rfl, Lib.hid (fun b hb => by simp at hb)⟩
  case round =>
    obtain ⟨k, hk, rfl, HK⟩ := hrel
    by_cases hlt : k < s.size
    · obtain ⟨b, hb⟩ : ∃ b, s[k].toNat = b := ⟨_, rfl⟩
      by_cases hok : okByte b
      · have HK2 : Hid (∀ c ∈ s.data.toList.take (k + 1), okByte c.toNat) := Lib.hid (fun c hc => by
          rw [List.take_succ_eq_append_getElem (by rw [size_list]; exact hlt)] at hc
          rcases List.mem_append.1 hc with hc | hc
          · exact HK.out c hc
          · have : c = s.data[k]'hlt := by simpa using hc
            rw [this, show (s.data[k]'hlt).toNat = b from hb]
            exact hok)
        by_cases h46 : b = 46
        · subst h46
          clear hok
          go_wp2_with fail
          go_round
          case rel => exact ⟨k + 1, by omega, by go_num, HK2⟩
          case measure => simp [RowKit.intOf]; omega
        · obtain ⟨h1, h2⟩ : 97 ≤ b ∧ b ≤ 122 := by
            rcases hok with h | h
            · exact absurd h h46
            · exact h
          have d1 : ((b : Int) == 46) = false := by simp; omega
          go_wp2_with fail
          go_round
          case rel => exact ⟨k + 1, by omega, by go_num, HK2⟩
          case measure => simp [RowKit.intOf]; omega
      · have HN := Lib.hid (isName_no hlt (by rw [hb]; exact hok))
        have d1 : ((b : Int) == 46) = false := by simp; intro h; exact hok (.inl (by omega))
        have d2 : ((b : Int) != 46) = true := by simp; intro h; exact hok (.inl (by omega))
        have hok2 : b < 97 ∨ 122 < b := by
          rcases Nat.lt_or_ge b 97 with h | h
          · exact .inl h
          · rcases Nat.lt_or_ge 122 b with h' | h'
            · exact .inr h'
            · exact absurd (.inr ⟨h, h'⟩) hok
        by_cases h97 : b < 97
        · clear hok hok2
          go_wp2_with fail
          go_ret
          exact ⟨ret_bool (decide_eq_false HN.out).symm, rfl⟩
        · have h122 : 122 < b := by omega
          clear hok hok2
          go_wp2_with fail
          go_ret
          exact ⟨ret_bool (decide_eq_false HN.out).symm, rfl⟩
    · obtain rfl : k = s.size := by omega
      have hall : ∀ b ∈ s.data.toList, okByte b.toNat := fun b hb => HK.out b (by rw [List.take_of_length_le (by rw [size_list]; omega)]; exact hb)
      have HA := Lib.hid hall
      clear hall
      by_cases h1 : 1 ≤ s.size
      · go_wp2_with fail
        go_ret
        refine ⟨ret_bool ?_, rfl⟩
        by_cases h12 : s.size ≤ 12
        · rw [decide_eq_true (show isName s from ⟨HA.out, h1, h12⟩)]
          exact decide_eq_true (by omega)
        · rw [decide_eq_false (fun h : isName s => h12 h.2.2)]
          exact decide_eq_false (by omega)
      · go_wp2_with fail
        go_ret
        exact ⟨ret_bool (decide_eq_false (fun h : isName s => h1 h.2.1)).symm, rfl⟩
theorem used_take_k (l : List DF) (k : Nat) (f : DF) (h : l[k]? = some f) : usedF (l.take (k + 1)) = usedF (l.take k) + f.bytes.size := by
  induction l generalizing k with
  | nil => simp at h
  | cons a l ih =>
    cases k with
    | zero =>
      have : a = f := by simpa using h
      subst this
      simp [usedF]
    | succ k =>
      have := ih k (by simpa using h)
      simp only [List.take_succ_cons, usedF, this]
      omega
theorem used_take_le (l : List DF) (k : Nat) : usedF (l.take k) ≤ usedF l := by
  induction l generalizing k with
  | nil => simp [usedF]
  | cons a l ih =>
    cases k with
    | zero => simp [usedF]
    | succ k =>
      have := ih k
      simp only [List.take_succ_cons, usedF]
      omega
set_option maxRecDepth 100000 in
set_option maxHeartbeats 1000000 in
theorem used_any (Q : Nat) (v : Value) (st : DS) (w : World) (h : RD w Q v st) (ho : st.ops ≤ 1048576) :
    Calls Try.prog 14 #[.pointer (some ⟨Q, 0, none⟩)] w fun e w' => e = .returned (.int .i64 (used st : Nat)) ∧ w = w' := by
  obtain ⟨a, cap, rfl, hcap, _, hrow⟩ := h.rowed
  have q0 := cell_block (j := 0) h.block rfl
  have q5 := cell_block (j := 5) h.block rfl
  have hfew := h.good.few; have hroom := h.good.room; have hfit := h.good.fit
  have HR := Lib.hid hrow
  have HU := Lib.hid (used_take_le st.fs)
  clear hrow h
  obtain ⟨n, hn⟩ : ∃ n, st.fs.length = n := ⟨_, rfl⟩
  rw [hn] at q0 hcap hfew
  cases hd : st.dead with
  | true =>
    have hu : used st = 0 := by unfold used; rw [hd]; rfl
    rw [hu]
    rw [hd] at q5
    clear HU HR
    go_enter Try.func14, Try.ntmps14
    go_wp2_with fail
    go_loop [3, 4] (fun t i => t = .int .i64 0 ∧ i = .int .i64 0) (fun _ i => n - (RowKit.intOf i).toNat)
    case atStart => exact ⟨rfl, rfl⟩
    case round =>
      obtain ⟨rfl, rfl⟩ := hrel
      by_cases h0 : 0 < n
      · go_wp2_with fail
        go_ret
        exact ⟨rfl, rfl⟩
      · go_wp2_with fail
        go_ret
        exact ⟨rfl, rfl⟩
  | false =>
    have hu : used st = usedF st.fs := by unfold used; rw [hd]; rfl
    rw [hu]
    rw [hd] at q5
    go_enter Try.func14, Try.ntmps14
    go_wp2_with fail
    go_loop [3, 4] (fun t i => ∃ k : Nat, k ≤ n ∧ t = .int .i64 (usedF (st.fs.take k) : Nat) ∧ i = .int .i64 k) (fun _ i => n - (RowKit.intOf i).toNat)
    case atStart => exact ⟨0, by omega, rfl, rfl⟩
    case round =>
      obtain ⟨k, hk, rfl, rfl⟩ := hrel
      have hle := HU.out k
      by_cases hlt : k < n
      · obtain ⟨f, hf⟩ : ∃ f, st.fs[k]? = some f := ⟨st.fs[k]'(by omega), List.getElem?_eq_getElem (by omega)⟩
        obtain ⟨g, rfl, hgl, hgq, c0, c1, c2⟩ := HR.out k f hf
        have hstep := used_take_k st.fs k f hf
        have hle2 := HU.out (k + 1)
        obtain ⟨u, hu1⟩ : ∃ u, usedF (st.fs.take k) = u := ⟨_, rfl⟩
        obtain ⟨u2, hu2⟩ : ∃ u, usedF (st.fs.take (k + 1)) = u := ⟨_, rfl⟩
        rw [hu1] at hle hstep ⊢
        rw [hu2] at hle2 hstep
        have H2 := Lib.hid hu2; have HST := Lib.hid hstep
        clear hu1 hu2 hf
        have hb1 : f.bytes.size ≤ 16777216 := by omega
        clear hstep
        go_wp2_with fail
        go_round
        case rel => exact ⟨k + 1, by omega, by rw [H2.out, HST.out]; go_num, by go_num⟩
        case measure => simp [RowKit.intOf]; omega
      · obtain rfl : k = n := by omega
        rw [List.take_of_length_le (by omega)] at hle ⊢
        go_wp2_with fail
        go_ret
        exact ⟨rfl, rfl⟩
end Go.Proofs.Ytflkglnmenbmaaa.Disk
