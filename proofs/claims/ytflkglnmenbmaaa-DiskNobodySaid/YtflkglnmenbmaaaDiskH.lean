/- The walks over New, Read, Names, Rename of the document's disk. -/
import Derived.Test.YtflkglnmenbmaaaDiskG
namespace Go.Proofs.Ytflkglnmenbmaaa.Disk
open Go.RowKit Go.Lib

theorem Good.new {room : Nat} (h : room ≤ 16777216) : Good (newS room) := ⟨h, Nat.zero_le _, by intro f hf; simp [newS] at hf, Nat.zero_le _, Nat.zero_le _⟩
set_option maxRecDepth 100000 in
set_option maxHeartbeats 1000000 in
theorem new_bad (n : Int) (w : World) (hn : n < 0 ∨ 16777216 < n) :
    Calls Try.prog 10 #[.int .i64 n] w fun e w' => e = .returned (.tuple #[.pointer none, .int .i64 1]) ∧ w = w' := by
  rcases hn with hn | hn
  · go_enter Try.func10, Try.ntmps10
    go_wp2_with fail
    go_ret2
    exact ⟨rfl, rfl⟩
  · have h0 : ¬ n < 0 := by omega
    go_enter Try.func10, Try.ntmps10
    go_wp2_with fail
    go_ret2
    exact ⟨rfl, rfl⟩
set_option maxRecDepth 100000 in
set_option maxHeartbeats 1000000 in
theorem new_any (n : Nat) (w : World) (hn : n ≤ 16777216) :
    Calls Try.prog 10 #[.int .i64 (n : Int)] w fun e w' => e = .returned (.tuple #[.pointer (some ⟨w.heap.size, 0, none⟩), .int .i64 0]) ∧ RD w' w.heap.size (.slice none 0 0) (newS n) ∧ Below w.heap.size w w' := by
  have h0 : ¬ (n : Int) < 0 := by omega
  have h1 : ¬ 16777216 < (n : Int) := by omega
  have hG := Good.new hn
  have hR : RD (w.alloc (.cells #[.slice none 0 0, .int .i64 (n : Int), .int .i64 0, .int .i64 0, .bool false, .bool false] 41)) w.heap.size (.slice none 0 0) (newS n) := ⟨heap_alloc_new w _, World.ownsRow_nil _ _ _ _, hG⟩
  have HR := Lib.hid hR
  clear hR hG
  go_enter Try.func10, Try.ntmps10
  go_wp2_with fail
  go_ret2
  exact ⟨rfl, HR.out, (Below.refl _ w).alloc (Nat.le_refl _) _⟩
abbrev readV (st : DS) (s : ByteArray) : Value := .tuple #[.string (readS st s), .int .i64 (readE st s)]
set_option maxRecDepth 100000 in
set_option maxHeartbeats 1000000 in
theorem read_any (Q : Nat) (v : Value) (st : DS) (s : ByteArray) (w : World) (h : RD w Q v st) (ho : st.ops ≤ 1048576) :
    Calls Try.prog 33 #[.pointer (some ⟨Q, 0, none⟩), .string s] w fun e w' => e = .returned (readV st s) ∧ w = w' := by
  have q5 := cell_block (j := 5) h.block rfl
  have HD := Lib.hid h
  cases hd : st.dead with
  | true =>
    have hV : readV st s = .tuple #[.string ⟨#[]⟩, .int .i64 14] := by unfold readV readS readE; rw [hd]; rfl
    rw [hV]
    rw [hd] at q5
    clear hV h
    go_enter Try.func33, Try.ntmps33
    go_wp2_with fail
    go_ret2
    exact ⟨rfl, rfl⟩
  | false =>
    rw [hd] at q5
    rcases look_pos (l := st.fs) (s := s) with ⟨k, f, hp, hfk, hfn, hl, _⟩ | ⟨hp, hl⟩
    · obtain ⟨a, cap, rfl, hcap, _, hrow⟩ := h.rowed
      obtain ⟨g, rfl, hgl, hgq, c0, c1, c2⟩ := hrow k f hfk
      have q0 : w.cell? ⟨Q, 0, none⟩ = some (.slice (some ⟨g, 0, none⟩) st.fs.length cap) := cell_block h.block rfl
      have hkn : k < st.fs.length := (List.getElem?_eq_some_iff.1 hfk).1
      have hfew := h.good.few
      have hV : readV st s = .tuple #[.string f.bytes, .int .i64 0] := by unfold readV readS readE; rw [hd, fileOf_some hl, hl]; rfl
      have HP := Lib.hid (posZ_some hp)
      rw [hV]
      clear hV h hrow hp hl
      go_enter Try.func33, Try.ntmps33
      go_wp2_with fail
      refine (find_any Q _ st s _ HD.out ho).mono ?_
      rintro e w' ⟨rfl, rfl⟩
      rw [HP.out]
      go_wp2_with fail
      go_ret2
      exact ⟨rfl, rfl⟩
    · have hV : readV st s = .tuple #[.string ⟨#[]⟩, .int .i64 3] := by unfold readV readS readE; rw [hd, fileOf_none hl, hl]; rfl
      have HP := Lib.hid (posZ_none hp)
      rw [hV]
      clear hV h hp hl
      go_enter Try.func33, Try.ntmps33
      go_wp2_with fail
      refine (find_any Q _ st s _ HD.out ho).mono ?_
      rintro e w' ⟨rfl, rfl⟩
      rw [HP.out]
      go_wp2_with fail
      go_ret2
      exact ⟨rfl, rfl⟩
theorem namesF_take (l : List DF) (k : Nat) (f : DF) (h : l[k]? = some f) : namesF (l.take (k + 1)) = namesF (l.take k) ++ [f.name] := by
  have hk : k < l.length := (List.getElem?_eq_some_iff.1 h).1
  have hf : l[k] = f := (List.getElem?_eq_some_iff.1 h).2
  unfold namesF
  rw [List.take_succ_eq_append_getElem hk, List.map_append, hf]
  rfl
theorem texts_append {w1 : World} {base : Nat} {v' : Value} {l : List ByteArray} {s : ByteArray} (h : w1.ownsRow base 9 1 v' (l.length + 1) (l.map Value.string ++ [.string s])) : Texts w1 base v' (l ++ [s]) := by
  show w1.ownsRow base 9 1 v' (l ++ [s]).length ((l ++ [s]).map Value.string)
  rw [List.length_append, List.map_append]
  exact h
set_option maxRecDepth 100000 in
set_option maxHeartbeats 1000000 in
theorem names_any (Q : Nat) (v : Value) (st : DS) (w : World) (h : RD w Q v st) (ho : st.ops ≤ 1048576) :
    Calls Try.prog 19 #[.pointer (some ⟨Q, 0, none⟩)] w fun e w' => ∃ o, e = .returned o ∧ Texts w' w.heap.size o (names st) ∧ Below w.heap.size w w' := by
  obtain ⟨i0, hi, hz0, hz1, hz2⟩ := info_parts info_str
  obtain ⟨a, cap, rfl, hcap, _, hrow⟩ := h.rowed
  have hfew := h.good.few
  have hQ := h.lt
  have hblk := h.block
  have HR := Lib.hid hrow
  clear hrow h
  obtain ⟨n, hn⟩ : ∃ n, st.fs.length = n := ⟨_, rfl⟩
  rw [hn] at hcap hfew hblk
  cases hd : st.dead with
  | true =>
    have hN : names st = [] := by unfold names; rw [hd]; rfl
    rw [hN]
    rw [hd] at hblk
    have q0 : w.cell? ⟨Q, 0, none⟩ = some (.slice a n cap) := cell_block hblk rfl
    have q5 : w.cell? ⟨Q, 5, none⟩ = some (.bool true) := cell_block hblk rfl
    clear hblk HR
    go_enter Try.func19, Try.ntmps19
    go_wp2_with fail
    go_loopw [3, 4] (fun o i wr => o = .slice none 0 0 ∧ i = .int .i64 0 ∧ wr = w) (fun _ i _ => n - (RowKit.intOf i).toNat)
    case atStart => exact ⟨rfl, rfl, rfl⟩
    case round =>
      obtain ⟨rfl, rfl, rfl⟩ := hrel
      by_cases h0 : 0 < n
      · go_wp2_with fail
        go_ret
        exact ⟨_, rfl, World.ownsRow_nil _ _ _ _, Below.refl _ _⟩
      · go_wp2_with fail
        go_ret
        exact ⟨_, rfl, World.ownsRow_nil _ _ _ _, Below.refl _ _⟩
  | false =>
    have hN : names st = namesF st.fs := by unfold names; rw [hd]; rfl
    rw [hN]
    rw [hd] at hblk
    have HB := Lib.hid hblk
    clear hblk
    go_enter Try.func19, Try.ntmps19
    go_wp2_with fail
    go_loopw [3, 4] (fun o i wr => ∃ k : Nat, k ≤ n ∧ i = .int .i64 k ∧ Texts wr w.heap.size o (namesF (st.fs.take k)) ∧ Below w.heap.size w wr) (fun _ i _ => n - (RowKit.intOf i).toNat)
    case atStart => exact ⟨0, by omega, rfl, World.ownsRow_nil _ _ _ _, Below.refl _ _⟩
    case round =>
      obtain ⟨k, hk, rfl, hown, hbel⟩ := hrel
      have hbk := (hbel.block Q hQ).trans HB.out
      have q0 : wr.cell? ⟨Q, 0, none⟩ = some (.slice a n cap) := cell_block hbk rfl
      have q5 : wr.cell? ⟨Q, 5, none⟩ = some (.bool false) := cell_block hbk rfl
      by_cases hlt : k < n
      · obtain ⟨f, hf⟩ : ∃ f, st.fs[k]? = some f := ⟨st.fs[k]'(by omega), List.getElem?_eq_getElem (by omega)⟩
        obtain ⟨g, rfl, hgl, hgq, c0, c1, c2⟩ := HR.out k f hf
        have e0 := ((bcell hbel).1 g (k * 3) hgl).trans c0
        have hstep := namesF_take st.fs k f hf
        have hlen : (namesF (st.fs.take k)).length ≤ k := by unfold namesF; rw [List.length_map, List.length_take]; omega
        have HST := Lib.hid hstep
        clear c0 c1 c2 hbk hstep
        go_wp2_with (at_builtin; refine wpList_append_own _ rfl _ _ 43 rfl w.heap.size 9 i0 (.string ⟨#[]⟩) 1 16 Try.underlying43 hi hz0 hz1 hz2 rfl (by decide) _ _ _ rfl (hown.alloc _) ⟨wr.heap.size, 0, none⟩ 1 1 [.string f.name] rfl rfl ?c1 ?c2 ?c3 ?c4 ?c5 ?_)
        case c1 =>
          intro j u hj
          match j, hj with
          | 0, hj => simp at hj; subst hj; simp [Addr.add]
        case c2 => intro u hu; simp at hu; subst hu; rfl
        case c3 => unfold maxLen; omega
        case c4 => omega
        case c5 => have := hbel.size; simp; omega
        intro v' w1 hown' hgrow _
        have ht := texts_append hown'
        have hbel1 : Below w.heap.size w w1 := by
          have h1 : Below w.heap.size w (wr.alloc (.cells #[.string f.name] 9)) := hbel.alloc hbel.size _
          exact h1.grown hgrow h1.size (fun q hq => (hown.lt q hq).1)
        clear hgrow hown hbel hown'
        go_wp2_with fail
        go_roundw
        case rel => exact ⟨k + 1, by omega, by go_num, by rw [HST.out]; exact ht, hbel1⟩
        case measure => simp [RowKit.intOf]; omega
      · obtain rfl : k = n := by omega
        rw [List.take_of_length_le (by omega)] at hown
        clear hbk
        go_wp2_with fail
        go_ret
        exact ⟨_, rfl, hown, hbel⟩
end Go.Proofs.Ytflkglnmenbmaaa.Disk
