/- The program's Check, apart (a seat without the others builds it alone). -/
import Derived.Test.YtghlgmlelipjfaaGoodsH
namespace Go.Proofs.Ytghlgmlelipjfaa.Goods.Im
open Go.RowKit Go.Lib

theorem listed_iff {l : List St} {ty : Int} : Listed l ty ↔ l.length ≤ 8 ∧ Norm l ∧ (∀ s ∈ l, s.qty ≤ mq) ∧ ∀ s ∈ l, s.kind ≤ ty := by
  constructor
  · rintro ⟨h8, he, hn, hk⟩
    have hN := norm_nl (errN_zero he).1
    rw [hn] at hN
    refine ⟨h8, hN, fun s hs => ?_, hk⟩
    have := valN_le l s (by rw [valN_ok he, hn]; exact hs)
    exact this
  · rintro ⟨h8, hN, hq, hk⟩
    refine ⟨h8, errN_ok (fine_norm hN) fun ⟨k, h⟩ => ?_, nl_norm hN, hk⟩
    by_cases hex : ∃ s ∈ l, s.kind = k
    · obtain ⟨s, hs, rfl⟩ := hex
      rw [cnt_at hN.rise hs] at h
      have := hq s hs
      omega
    · rw [cnt_none fun s hs e => hex ⟨s, hs, e⟩] at h
      unfold mq at h
      omega
/-- The first stacks may stand so, the last of them of type z. -/
structure Upon (l : List St) (ty : Int) (i : Nat) (z : Int) : Prop where
  norm : Norm (l.take i)
  qty : ∀ s ∈ l.take i, s.qty ≤ mq
  kind : ∀ s ∈ l.take i, s.kind ≤ ty
  most : ∀ s ∈ l.take i, s.kind ≤ z
  zero : 0 ≤ z
  last : z = 0 ∨ ∃ s ∈ l.take i, s.kind = z
theorem upon_zero (l : List St) (ty : Int) : Upon l ty 0 0 := by
  refine ⟨⟨.nil, ?_, ?_⟩, ?_, ?_, ?_, Int.le_refl _, .inl rfl⟩
  all_goals
    intro s hs
    rw [List.take_zero] at hs
    cases hs
theorem upon_next {l : List St} {ty z : Int} {i : Nat} {t : St} (h : Upon l ty i z) (ht : l[i]? = some t) (h1 : z < t.kind) (h2 : t.kind ≤ ty) (h3 : 1 ≤ t.qty) (h4 : t.qty ≤ mq) : Upon l ty (i + 1) t.kind := by
  have hz := h.zero
  have hm : ∀ s, s ∈ l.take (i + 1) → s ∈ l.take i ∨ s = t := fun s hs => (mem_take_succ ht).1 hs
  refine ⟨⟨?_, fun s hs => ?_, fun s hs => ?_⟩, fun s hs => ?_, fun s hs => ?_, fun s hs => ?_, by omega, .inr ⟨t, (mem_take_succ ht).2 (.inr rfl), rfl⟩⟩
  · rw [List.take_add_one, ht]
    refine List.pairwise_append.2 ⟨h.norm.rise, List.pairwise_singleton _ _, fun s hs u hu => ?_⟩
    rw [List.mem_singleton.1 hu]
    have := h.most s hs
    omega
  · rcases hm s hs with hs | rfl
    · exact h.norm.kind s hs
    · omega
  · rcases hm s hs with hs | rfl
    · exact h.norm.qty s hs
    · exact h3
  · rcases hm s hs with hs | rfl
    · exact h.qty s hs
    · exact h4
  · rcases hm s hs with hs | rfl
    · exact h.kind s hs
    · exact h2
  · rcases hm s hs with hs | rfl
    · have := h.most s hs
      omega
    · exact Int.le_refl _
theorem upon_no {l : List St} {ty z : Int} {i : Nat} {t : St} (h : Upon l ty i z) (ht : l[i]? = some t) (hno : t.kind ≤ z ∨ ty < t.kind ∨ t.qty < 1 ∨ mq < t.qty) : ¬ Listed l ty := by
  rw [listed_iff]
  rintro ⟨_, hN, hq, hk⟩
  have hmem := List.mem_of_getElem? ht
  have h1 := hN.kind t hmem
  have h2 := hN.qty t hmem
  have h3 := hq t hmem
  have h4 := hk t hmem
  rcases hno with h5 | h5 | h5 | h5
  · rcases h.last with h6 | ⟨s, hs, h6⟩
    · omega
    · have hr : Rise (l.take (i + 1)) := List.Pairwise.sublist (List.take_sublist _ _) hN.rise
      rw [List.take_add_one, ht] at hr
      have := (List.pairwise_append.1 hr).2.2 s hs t (by simp)
      omega
  · omega
  · omega
  · omega
theorem upon_all {l : List St} {ty z : Int} {i : Nat} (h : Upon l ty i z) (hi : l.length = i) (h8 : i ≤ 8) : Listed l ty := by
  have e : l.take i = l := List.take_of_length_le (by omega)
  rw [listed_iff]
  have h1 := h.norm
  have h2 := h.qty
  have h3 := h.kind
  rw [e] at h1 h2 h3
  exact ⟨by omega, h1, h2, h3⟩
set_option maxRecDepth 100000 in
set_option maxHeartbeats 4000000 in
theorem check_any (a : Option Addr) (n c : Nat) (l : List St) (ty : Int) (w : World) (hl : l.length = n) (hs : Sts w a l) (hn : n ≤ 1024) :
    Calls Try.prog 55 #[.slice a n c, .int .i64 ty] w fun e w' => e = .returned (.int .i64 (chk l ty)) ∧ Below w.heap.size w w' := by
  have HT := sts_at hs
  have HL := Lib.hid hl
  have hn1 : (n : Int) ≤ 1048576 := by omega
  by_cases h8 : 8 < n
  · have hd : decide (8 < (n : Int)) = true := by simp; omega
    rw [chk_no fun h => by have := h.1; omega]
    clear hs hn hl h8
    go_enter Try.func55, Try.ntmps55
    go_wp2_with fail
    go_ret
    exact ⟨rfl, Below.refl _ _⟩
  have hd : decide (8 < (n : Int)) = false := by simp; omega
  have H8 : Hid (n ≤ 8) := Lib.hid (by omega)
  clear hs hn hl h8
  go_enter Try.func55, Try.ntmps55
  go_wp2_with fail
  go_loopw [5, 13] (fun s t wr => ∃ (z : Int) (i : Nat), s = .int .i64 z ∧ t = .int .i64 i ∧ i ≤ n ∧ Hid (Below w.heap.size w wr) ∧ Hid (Upon l ty i z)) (fun _ t _ => n - (RowKit.intOf t).toNat)
  case atStart => exact ⟨0, 0, rfl, rfl, by omega, Lib.hid (Below.refl _ _), Lib.hid (upon_zero l ty)⟩
  case round =>
    obtain ⟨z, i, rfl, rfl, hi, HB, HU⟩ := hrel
    have hi0 : (0 : Int) ≤ (i : Int) := by omega
    by_cases hlt : i < n
    · have hlt2 : (i : Int) < (n : Int) := by omega
      obtain ⟨g, off, t, rfl, ht, k0, k1⟩ := HT.out wr i HB.out (by rw [HL.out]; exact hlt)
      obtain ⟨V, hV⟩ : ∃ V, wr.heap.size = V := ⟨_, rfl⟩
      obtain ⟨Y, hY⟩ : ∃ Y, wr.alloc (.cells #[.int .i64 t.kind, .int .i64 t.qty] 74) = Y := ⟨_, rfl⟩
      have hbY : Below wr.heap.size wr Y := by rw [← hY]; exact (Below.refl _ wr).alloc (Nat.le_refl _) _
      have hVY : Y.heap[V]? = some (.cells t.cells 74 (0, 0)) := by rw [← hY, ← hV]; exact heap_alloc_new wr _
      have v0 : Y.cell? ⟨V, 0, none⟩ = some (.int .i64 t.kind) := cell_block (j := 0) hVY rfl
      have v1 : Y.cell? ⟨V, 1, none⟩ = some (.int .i64 t.qty) := cell_block (j := 1) hVY rfl
      have HBY := Lib.hid (below_then HB.out hbY)
      clear hbY hVY
      by_cases c1 : t.kind ≤ z
      · have d1 : decide (t.kind ≤ z) = true := decide_eq_true c1
        have HE := Lib.hid (chk_no (upon_no HU.out ht.out (.inl c1)))
        clear c1
        go_wp2_with fail
        clear hY hV k0 k1
        go_ret
        exact ⟨by rw [HE.out]; rfl, HBY.out⟩
      have d1 : decide (t.kind ≤ z) = false := decide_eq_false c1
      by_cases c2 : ty < t.kind
      · have d2 : decide (ty < t.kind) = true := decide_eq_true c2
        have HE := Lib.hid (chk_no (upon_no HU.out ht.out (.inr (.inl c2))))
        clear c1 c2
        go_wp2_with fail
        clear hY hV k0 k1
        go_ret
        exact ⟨by rw [HE.out]; rfl, HBY.out⟩
      have d2 : decide (ty < t.kind) = false := decide_eq_false c2
      by_cases c3 : t.qty < 1
      · have d3 : decide (t.qty < 1) = true := decide_eq_true c3
        have HE := Lib.hid (chk_no (upon_no HU.out ht.out (.inr (.inr (.inl c3)))))
        clear c1 c2 c3
        go_wp2_with fail
        clear hY hV k0 k1
        go_ret
        exact ⟨by rw [HE.out]; rfl, HBY.out⟩
      have d3 : decide (t.qty < 1) = false := decide_eq_false c3
      by_cases c4 : 1125899906842624 < t.qty
      · have d4 : decide (1125899906842624 < t.qty) = true := decide_eq_true c4
        have HE := Lib.hid (chk_no (upon_no HU.out ht.out (.inr (.inr (.inr (by unfold mq; omega))))))
        clear c1 c2 c3 c4
        go_wp2_with fail
        clear hY hV k0 k1
        go_ret
        exact ⟨by rw [HE.out]; rfl, HBY.out⟩
      have d4 : decide (1125899906842624 < t.qty) = false := decide_eq_false c4
      have HU2 := Lib.hid (upon_next HU.out ht.out (by omega) (by omega) (by omega) (by unfold mq; omega))
      clear c1 c2 c3 c4
      go_wp2_with fail
      clear hY hV k0 k1
      go_roundw
      case rel => exact ⟨t.kind, i + 1, rfl, by go_num, by omega, HBY, HU2⟩
      case measure => simp [RowKit.intOf]; omega
    · obtain rfl : i = n := by omega
      have HE := Lib.hid (chk_yes (upon_all HU.out HL.out H8.out))
      go_wp2_with fail
      go_ret
      exact ⟨by rw [HE.out]; rfl, HB.out⟩
end Go.Proofs.Ytghlgmlelipjfaa.Goods.Im
