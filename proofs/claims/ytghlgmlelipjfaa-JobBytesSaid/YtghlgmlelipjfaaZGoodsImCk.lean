/- The program's Check, apart (a seat without the others builds it alone). The program's mayLock, mayBeAsked and Check. The program's Check. -/
import Derived.Test.YtghlgmlelipjfaaZGoodsB
import Derived.Test.YtghlgmlelipjfaaZJobImA
import Derived.Test.YtghlgmlelipjfaaZPrRDone
namespace Go.Proofs.Ytghlgmlelipjfaa.Goods.Im
open Go.RowKit Go.Lib

theorem listed_iff {l : List St} {ty : Int} : Listed l ty ↔ l.length ≤ 8 ∧ Norm l ∧ (∀ s ∈ l, s.qty ≤ mq) ∧ ∀ s ∈ l, s.kind ≤ ty := by
  constructor
  · rintro ⟨h8, he, hn, hk⟩
    have hN := norm_nl (errN_zero he).1
    rw [hn] at hN
    refine ⟨h8, hN, fun s hs => ?_, hk⟩
    have := valN_le l s (by rw [valN_ok he, hn]; exact hs)
    exact this
  · rintro ⟨h8, hN, hq, hk⟩
    refine ⟨h8, errN_ok (fine_norm hN) fun ⟨k, h⟩ => ?_, nl_norm hN, hk⟩
    by_cases hex : ∃ s ∈ l, s.kind = k
    · obtain ⟨s, hs, rfl⟩ := hex
      rw [cnt_at hN.rise hs] at h
      have := hq s hs
      omega
    · rw [cnt_none fun s hs e => hex ⟨s, hs, e⟩] at h
      unfold mq at h
      omega
/-- The first stacks may stand so, the last of them of type z. -/
structure Upon (l : List St) (ty : Int) (i : Nat) (z : Int) : Prop where
  norm : Norm (l.take i)
  qty : ∀ s ∈ l.take i, s.qty ≤ mq
  kind : ∀ s ∈ l.take i, s.kind ≤ ty
  most : ∀ s ∈ l.take i, s.kind ≤ z
  zero : 0 ≤ z
  last : z = 0 ∨ ∃ s ∈ l.take i, s.kind = z
theorem upon_zero (l : List St) (ty : Int) : Upon l ty 0 0 := by
  refine ⟨⟨.nil, ?_, ?_⟩, ?_, ?_, ?_, Int.le_refl _, .inl rfl⟩
  all_goals
    intro s hs
    rw [List.take_zero] at hs
    cases hs
theorem upon_next {l : List St} {ty z : Int} {i : Nat} {t : St} (h : Upon l ty i z) (ht : l[i]? = some t) (h1 : z < t.kind) (h2 : t.kind ≤ ty) (h3 : 1 ≤ t.qty) (h4 : t.qty ≤ mq) : Upon l ty (i + 1) t.kind := by
  have hz := h.zero
  have hm : ∀ s, s ∈ l.take (i + 1) → s ∈ l.take i ∨ s = t := fun s hs => (mem_take_succ ht).1 hs
  refine ⟨⟨?_, fun s hs => ?_, fun s hs => ?_⟩, fun s hs => ?_, fun s hs => ?_, fun s hs => ?_, by omega, .inr ⟨t, (mem_take_succ ht).2 (.inr rfl), rfl⟩⟩
  · rw [List.take_add_one, ht]
    refine List.pairwise_append.2 ⟨h.norm.rise, List.pairwise_singleton _ _, fun s hs u hu => ?_⟩
    rw [List.mem_singleton.1 hu]
    have := h.most s hs
    omega
  · rcases hm s hs with hs | rfl
    · exact h.norm.kind s hs
    · omega
  · rcases hm s hs with hs | rfl
    · exact h.norm.qty s hs
    · exact h3
  · rcases hm s hs with hs | rfl
    · exact h.qty s hs
    · exact h4
  · rcases hm s hs with hs | rfl
    · exact h.kind s hs
    · exact h2
  · rcases hm s hs with hs | rfl
    · have := h.most s hs
      omega
    · exact Int.le_refl _
theorem upon_no {l : List St} {ty z : Int} {i : Nat} {t : St} (h : Upon l ty i z) (ht : l[i]? = some t) (hno : t.kind ≤ z ∨ ty < t.kind ∨ t.qty < 1 ∨ mq < t.qty) : ¬ Listed l ty := by
  rw [listed_iff]
  rintro ⟨_, hN, hq, hk⟩
  have hmem := List.mem_of_getElem? ht
  have h1 := hN.kind t hmem
  have h2 := hN.qty t hmem
  have h3 := hq t hmem
  have h4 := hk t hmem
  rcases hno with h5 | h5 | h5 | h5
  · rcases h.last with h6 | ⟨s, hs, h6⟩
    · omega
    · have hr : Rise (l.take (i + 1)) := List.Pairwise.sublist (List.take_sublist _ _) hN.rise
      rw [List.take_add_one, ht] at hr
      have := (List.pairwise_append.1 hr).2.2 s hs t (by simp)
      omega
  · omega
  · omega
  · omega
theorem upon_all {l : List St} {ty z : Int} {i : Nat} (h : Upon l ty i z) (hi : l.length = i) (h8 : i ≤ 8) : Listed l ty := by
  have e : l.take i = l := List.take_of_length_le (by omega)
  rw [listed_iff]
  have h1 := h.norm
  have h2 := h.qty
  have h3 := h.kind
  rw [e] at h1 h2 h3
  exact ⟨by omega, h1, h2, h3⟩
set_option maxRecDepth 100000 in
set_option maxHeartbeats 4000000 in
theorem check_any (a : Option Addr) (n c : Nat) (l : List St) (ty : Int) (w : World) (hl : l.length = n) (hs : Sts w a l) (hn : n ≤ 1024) :
    Calls Try.prog 55 #[.slice a n c, .int .i64 ty] w fun e w' => e = .returned (.int .i64 (chk l ty)) ∧ Below w.heap.size w w' := by
  have HT := sts_at hs
  have HL := Lib.hid hl
  have hn1 : (n : Int) ≤ 1048576 := by omega
  by_cases h8 : 8 < n
  · have hd : decide (8 < (n : Int)) = true := by simp; omega
    rw [chk_no fun h => by have := h.1; omega]
    clear hs hn hl h8
    go_enter Try.func55, Try.ntmps55
    go_wp2_with fail
    go_ret
    exact ⟨rfl, Below.refl _ _⟩
  have hd : decide (8 < (n : Int)) = false := by simp; omega
  have H8 : Hid (n ≤ 8) := Lib.hid (by omega)
  clear hs hn hl h8
  go_enter Try.func55, Try.ntmps55
  go_wp2_with fail
  go_loopw [5, 13] (fun s t wr => ∃ (z : Int) (i : Nat), s = .int .i64 z ∧ t = .int .i64 i ∧ i ≤ n ∧ Hid (Below w.heap.size w wr) ∧ Hid (Upon l ty i z)) (fun _ t _ => n - (RowKit.intOf t).toNat)
  case atStart => exact ⟨0, 0, rfl, rfl, by omega, Lib.hid (Below.refl _ _), Lib.hid (upon_zero l ty)⟩
  case round =>
    obtain ⟨z, i, rfl, rfl, hi, HB, HU⟩ := hrel
    have hi0 : (0 : Int) ≤ (i : Int) := by omega
    by_cases hlt : i < n
    · have hlt2 : (i : Int) < (n : Int) := by omega
      obtain ⟨g, off, t, rfl, ht, k0, k1⟩ := HT.out wr i HB.out (by rw [HL.out]; exact hlt)
      obtain ⟨V, hV⟩ : ∃ V, wr.heap.size = V := ⟨_, rfl⟩
      obtain ⟨Y, hY⟩ : ∃ Y, wr.alloc (.cells #[.int .i64 t.kind, .int .i64 t.qty] 74) = Y := ⟨_, rfl⟩
      have hbY : Below wr.heap.size wr Y := by rw [← hY]; exact (Below.refl _ wr).alloc (Nat.le_refl _) _
      have hVY : Y.heap[V]? = some (.cells t.cells 74 (0, 0)) := by rw [← hY, ← hV]; exact heap_alloc_new wr _
      have v0 : Y.cell? ⟨V, 0, none⟩ = some (.int .i64 t.kind) := cell_block (j := 0) hVY rfl
      have v1 : Y.cell? ⟨V, 1, none⟩ = some (.int .i64 t.qty) := cell_block (j := 1) hVY rfl
      have HBY := Lib.hid (below_then HB.out hbY)
      clear hbY hVY
      by_cases c1 : t.kind ≤ z
      · have d1 : decide (t.kind ≤ z) = true := decide_eq_true c1
        have HE := Lib.hid (chk_no (upon_no HU.out ht.out (.inl c1)))
        clear c1
        go_wp2_with fail
        clear hY hV k0 k1
        go_ret
        exact ⟨by rw [HE.out]; rfl, HBY.out⟩
      have d1 : decide (t.kind ≤ z) = false := decide_eq_false c1
      by_cases c2 : ty < t.kind
      · have d2 : decide (ty < t.kind) = true := decide_eq_true c2
        have HE := Lib.hid (chk_no (upon_no HU.out ht.out (.inr (.inl c2))))
        clear c1 c2
        go_wp2_with fail
        clear hY hV k0 k1
        go_ret
        exact ⟨by rw [HE.out]; rfl, HBY.out⟩
      have d2 : decide (ty < t.kind) = false := decide_eq_false c2
      by_cases c3 : t.qty < 1
      · have d3 : decide (t.qty < 1) = true := decide_eq_true c3
        have HE := Lib.hid (chk_no (upon_no HU.out ht.out (.inr (.inr (.inl c3)))))
        clear c1 c2 c3
        go_wp2_with fail
        clear hY hV k0 k1
        go_ret
        exact ⟨by rw [HE.out]; rfl, HBY.out⟩
      have d3 : decide (t.qty < 1) = false := decide_eq_false c3
      by_cases c4 : 1125899906842624 < t.qty
      · have d4 : decide (1125899906842624 < t.qty) = true := decide_eq_true c4
        have HE := Lib.hid (chk_no (upon_no HU.out ht.out (.inr (.inr (.inr (by unfold mq; omega))))))
        clear c1 c2 c3 c4
        go_wp2_with fail
        clear hY hV k0 k1
        go_ret
        exact ⟨by rw [HE.out]; rfl, HBY.out⟩
      have d4 : decide (1125899906842624 < t.qty) = false := decide_eq_false c4
      have HU2 := Lib.hid (upon_next HU.out ht.out (by omega) (by omega) (by omega) (by unfold mq; omega))
      clear c1 c2 c3 c4
      go_wp2_with fail
      clear hY hV k0 k1
      go_roundw
      case rel => exact ⟨t.kind, i + 1, rfl, by go_num, by omega, HBY, HU2⟩
      case measure => simp [RowKit.intOf]; omega
    · obtain rfl : i = n := by omega
      have HE := Lib.hid (chk_yes (upon_all HU.out HL.out H8.out))
      go_wp2_with fail
      go_ret
      exact ⟨by rw [HE.out]; rfl, HB.out⟩
end Go.Proofs.Ytghlgmlelipjfaa.Goods.Im
namespace Go.Proofs.Ytghlgmlelipjfaa.Job
open Go.RowKit Go.Lib
open Goods (St Sts OwnS)

/-- A goods' check as a job asks for it. -/
theorem listed_chk {l : List St} {e : Int} (h : Goods.chk l 32 = e) : (e = 0 ↔ Goods.Listed l 32) := by
  by_cases c : Goods.Listed l 32
  · rw [Goods.chk_yes c] at h
    exact ⟨fun _ => c, fun _ => h.symm⟩
  · rw [Goods.chk_no c] at h
    exact ⟨fun e => (by omega), fun k => absurd k c⟩
namespace Im
open Classical in
set_option maxRecDepth 100000 in
set_option maxHeartbeats 2000000 in
theorem mayLock_is (j : JS) (a : Option Addr) (n c : Nat) (w : World) (h : JIn w a n j.s) (hn : n ≤ 1024) : Calls Try.prog 30 #[jV j (.slice a n c)] w fun e w' => e = .returned (.bool (decide (Locks j))) ∧ Below w.heap.size w w' := by
  obtain ⟨q, hq⟩ : ∃ q, decide (Locks j) = q := ⟨_, rfl⟩
  rw [hq]
  obtain ⟨V, X, hV, hX, HXB, HH⟩ := box_jo w j (.slice a n c)
  obtain ⟨k0, k1, k2, k3, k4, k5, k6, k7, k8, k9, k10, k11, k12, k13, k14, k15⟩ := jo_at HH.out
  obtain ⟨er, her⟩ : ∃ er, Goods.chk j.s 32 = er := ⟨_, rfl⟩
  have hl := listed_chk her
  have HC := Goods.Im.check_any a n c j.s 32 X h.1 (h.under HXB.out.1).2 hn
  rw [her] at HC
  have HC : Hid (Calls Try.prog 55 #[.slice a n c, .int .i64 32] X fun e w' => e = .returned (.int .i64 er) ∧ Hid (Below w.heap.size w w')) := Lib.hid (HC.mono fun _ _ ⟨e, h⟩ => ⟨e, Lib.hid (below_then HXB.out.1 h)⟩)
  have hlen := h.1
  obtain ⟨b, hb⟩ : ∃ b, (er == 0) = b := ⟨_, rfl⟩
  have hlb : b = true ↔ Goods.Listed j.s 32 := by rw [← hb, ← hl]; simp
  have hn1 : (n : Int) ≤ 1024 := by omega
  by_cases c1 : j.kd = 1
  · have n1 : (j.kd != 1) = false := by simpa using c1
    have n2 : (j.kd == 1) = true := by simpa using c1
    have HE : Hid (q = b) := Lib.hid (by
      have : decide (Locks j) = decide (b = true) := decide_eq_decide.2 ⟨fun h => hlb.2 h.2, fun h => ⟨.inl c1, hlb.1 h⟩⟩
      rw [← hq, this]
      simp)
    clear hq hl hlb h hn hlen c1 her
    go_enter Try.func30, Try.ntmps30
    go_wp2_with fail
    clear hX hV
    refine HC.out.mono ?_
    rintro e w' ⟨rfl, H1⟩
    go_wp2_with fail
    go_ret
    exact ⟨ret_bool HE.out.symm, H1.out⟩
  have n1 : (j.kd != 1) = true := by simpa using c1
  have n2 : (j.kd == 1) = false := by simpa using c1
  by_cases c2 : n = 0
  · have HE : Hid (q = b) := Lib.hid (by
      have : decide (Locks j) = decide (b = true) := decide_eq_decide.2 ⟨fun h => hlb.2 h.2, fun h => ⟨.inr (by omega), hlb.1 h⟩⟩
      rw [← hq, this]
      simp)
    subst c2
    clear hq hl hlb h hn hlen c1 her
    go_enter Try.func30, Try.ntmps30
    go_wp2_with fail
    clear hX hV
    refine HC.out.mono ?_
    rintro e w' ⟨rfl, H1⟩
    go_wp2_with fail
    go_ret
    exact ⟨ret_bool HE.out.symm, H1.out⟩
  · have HE : Hid (q = false) := Lib.hid (hq.symm.trans (decide_eq_false fun h => (by have := h.1; omega)))
    have d1 : decide ((0 : Int) < (n : Int)) = true := by simp; omega
    have d2 : decide (0 < n) = true := by simp; omega
    have d3 : 0 < n := by omega
    clear hq hl hlb h hn hlen c1 c2 her
    go_enter Try.func30, Try.ntmps30
    go_wp2_with fail
    go_ret
    exact ⟨ret_bool HE.out.symm, HXB.out.1⟩
open Classical in
theorem asked_iff (j : JS) {b0 b1 b2 b3 b4 : Bool} (h0 : decide (1 ≤ j.kd ∧ j.kd ≤ 4) = b0) (h1 : decide (0 ≤ j.dv ∧ j.dv ≤ 4) = b1) (h2 : decide (1 ≤ j.rn ∧ j.rn ≤ 1000) = b2) (h3 : decide (Copies j) = b3) (h4 : decide (0 ≤ j.fe ∧ j.fe ≤ 1152921504606846976) = b4) (hL : ∀ x ∈ [j.id, j.ow, j.pb, j.ba, j.dr, j.tm], 1 ≤ x ∧ x ≤ 1099511627776) : decide (Asked j) = (b0 && (b1 && (b2 && (b3 && b4)))) := by
  rw [← h0, ← h1, ← h2, ← h3, ← h4, ← Bool.decide_and, ← Bool.decide_and, ← Bool.decide_and, ← Bool.decide_and]
  exact decide_eq_decide.2 ⟨fun h => ⟨h.kd, h.dv, h.rn, h.cp, h.fe⟩, fun ⟨a1, a2, a3, a4, a5⟩ => ⟨hL _ (by simp), hL _ (by simp), hL _ (by simp), hL _ (by simp), hL _ (by simp), hL _ (by simp), a1, a2, a3, a4, a5⟩⟩
theorem asked_all {j : JS} (h : Asked j) : ∀ x ∈ [j.id, j.ow, j.pb, j.ba, j.dr, j.tm], 1 ≤ x ∧ x ≤ 1099511627776 := by
  intro x hx
  simp at hx
  rcases hx with rfl | rfl | rfl | rfl | rfl | rfl
  · exact h.id
  · exact h.ow
  · exact h.pb
  · exact h.ba
  · exact h.dr
  · exact h.tm
open Classical in
set_option maxRecDepth 100000 in
set_option maxHeartbeats 4000000 in
theorem mayBeAsked_is (j : JS) (v : Value) (w : World) : Calls Try.prog 29 #[jV j v] w fun e w' => e = .returned (.bool (decide (Asked j))) ∧ Below w.heap.size w w' := by
  obtain ⟨q, hq⟩ : ∃ q, decide (Asked j) = q := ⟨_, rfl⟩
  rw [hq]
  obtain ⟨V, X, hV, hX, HXB, HH⟩ := box_jo w j v
  obtain ⟨k0, k1, k2, k3, k4, k5, k6, k7, k8, k9, k10, k11, k12, k13, k14, k15⟩ := jo_at HH.out
  obtain ⟨G, hG⟩ : ∃ G, X.heap.size = G := ⟨_, rfl⟩
  obtain ⟨Z, hZ⟩ : ∃ Z, X.alloc (.cells #[.int .i64 j.id, .int .i64 j.ow, .int .i64 j.pb, .int .i64 j.ba, .int .i64 j.dr, .int .i64 j.tm] 3) = Z := ⟨_, rfl⟩
  have hbl : Z.heap[G]? = some (.cells #[.int .i64 j.id, .int .i64 j.ow, .int .i64 j.pb, .int .i64 j.ba, .int .i64 j.dr, .int .i64 j.tm] 3 (0, 0)) := by rw [← hZ, ← hG]; exact heap_alloc_new X _
  have HXZ : Hid (Below X.heap.size X Z) := Lib.hid (by rw [← hZ]; exact (Below.refl _ X).alloc (Nat.le_refl _) _)
  obtain ⟨L, hL⟩ : ∃ L, [j.id, j.ow, j.pb, j.ba, j.dr, j.tm] = L := ⟨_, rfl⟩
  have HLL : Hid (L.length = 6) := Lib.hid (by rw [← hL]; rfl)
  have HR : Hid (∀ (i : Nat) (x : Int), L[i]? = some x → Z.cell? ⟨G, i, none⟩ = some (.int .i64 x)) := Lib.hid (fun i x hx => by
    refine cell_block (j := i) hbl ?_
    rw [← Array.getElem?_toList]
    have e : (#[Value.int .i64 j.id, .int .i64 j.ow, .int .i64 j.pb, .int .i64 j.ba, .int .i64 j.dr, .int .i64 j.tm] : Array Value).toList = L.map (Value.int .i64) := by rw [← hL]; rfl
    rw [e, List.getElem?_map, hx]
    rfl)
  have HWZ : Hid (Below w.heap.size w Z ∧ Has Z V j v) := Lib.hid ⟨below_then HXB.out.1 HXZ.out, has_under HH.out HXZ.out⟩
  obtain ⟨z0, z1, z2, z3, z4, z5, z6, z7, z8, z9, z10, z11, z12, z13, z14, z15⟩ := jo_at HWZ.out.2
  obtain ⟨b0, h0⟩ : ∃ b, decide (1 ≤ j.kd ∧ j.kd ≤ 4) = b := ⟨_, rfl⟩
  obtain ⟨b1, h1⟩ : ∃ b, decide (0 ≤ j.dv ∧ j.dv ≤ 4) = b := ⟨_, rfl⟩
  obtain ⟨b2, h2⟩ : ∃ b, decide (1 ≤ j.rn ∧ j.rn ≤ 1000) = b := ⟨_, rfl⟩
  obtain ⟨b3, h3⟩ : ∃ b, decide (Copies j) = b := ⟨_, rfl⟩
  obtain ⟨b4, h4⟩ : ∃ b, decide (0 ≤ j.fe ∧ j.fe ≤ 1152921504606846976) = b := ⟨_, rfl⟩
  have H0 := in_as h0; have H1 := in_as h1; have H2 := in_as h2; have H4 := in_as h4
  have H3 : Hid (∀ W, Calls Try.prog 54 #[jV j v] W fun e w' => e = .returned (.bool b3) ∧ Hid (Below W.heap.size W w')) := Lib.hid (fun W => by
    rw [← h3]
    exact (mayCopy_is j v W).mono fun _ _ ⟨e, h⟩ => ⟨e, Lib.hid h⟩)
  have HNO : Hid (¬ (∀ x ∈ L, 1 ≤ x ∧ x ≤ 1099511627776) → q = false) := Lib.hid (fun h => hq.symm.trans (decide_eq_false fun k => h (by rw [← hL]; exact asked_all k)))
  have HYES : Hid ((∀ x ∈ L, 1 ≤ x ∧ x ≤ 1099511627776) → q = (b0 && (b1 && (b2 && (b3 && b4))))) := Lib.hid (fun h => hq.symm.trans (asked_iff j h0 h1 h2 h3 h4 (by rw [hL]; exact h)))
  clear hq h0 h1 h2 h3 h4 hL hbl
  go_enter Try.func29, Try.ntmps29
  go_wp2_with fail
  clear hX hV hZ hG k0 k1 k2 k3 k4 k5 k6 k7 k8 k9 k10 k11 k12 k13 k14 k15
  go_loopw [19] (fun s wr => ∃ i : Nat, s = .int .i64 (i : Int) ∧ i ≤ 6 ∧ Hid (∀ x ∈ L.take i, 1 ≤ x ∧ x ≤ 1099511627776) ∧ wr = Z) (fun s _ => 6 - (RowKit.intOf s).toNat)
  case atStart => exact ⟨0, rfl, by omega, Lib.hid (by intro x hx; rw [List.take_zero] at hx; cases hx), rfl⟩
  case round =>
    obtain ⟨i, rfl, hi, HI, rfl⟩ := hrel
    have hi0 : (0 : Int) ≤ (i : Int) := by omega
    by_cases hlt : i < 6
    · have hlt2 : (i : Int) < 6 := by omega
      have wi : IntKind.i64.wrap ((i : Int) + 1) = (i : Int) + 1 := IntWalk.i64_in _ (by omega)
      obtain ⟨x, hx⟩ : ∃ x, L[i]? = some x := ⟨L[i]'(by have := HLL.out; omega), List.getElem?_eq_getElem (by have := HLL.out; omega)⟩
      have q0 := HR.out i x hx
      have q1 : wr.cell? ⟨G, 0 + i, none⟩ = some (.int .i64 x) := by rw [Nat.zero_add]; exact q0
      by_cases hp : 1 ≤ x ∧ x ≤ 1099511627776
      · have HX0 := in_as (decide_eq_true hp)
        have HI2 : Hid (∀ y ∈ L.take (i + 1), 1 ≤ y ∧ y ≤ 1099511627776) := Lib.hid (fun y hy => by
          rw [List.take_add_one, hx] at hy
          rcases List.mem_append.1 hy with hy | hy
          · exact HI.out y hy
          · have : y = x := by simpa using hy
            rw [this]
            exact hp)
        clear hx hp
        go_wp2_with fail
        refine (HX0.out _).mono ?_
        rintro e w' ⟨rfl, rfl⟩
        go_wp2_with fail
        go_roundw
        case rel => exact ⟨i + 1, by go_num, by omega, HI2, by trivial⟩
        case measure => simp [RowKit.intOf]; omega
      · have HX0 := in_as (decide_eq_false hp)
        have HE : Hid (q = false) := Lib.hid (HNO.out fun k => hp (k x (List.mem_of_getElem? hx)))
        clear hx hp
        go_wp2_with fail
        refine (HX0.out _).mono ?_
        rintro e w' ⟨rfl, rfl⟩
        go_wp2_with fail
        go_ret
        exact ⟨ret_bool HE.out.symm, HWZ.out.1⟩
    · obtain rfl : i = 6 := by omega
      have HE : Hid (q = (b0 && (b1 && (b2 && (b3 && b4))))) := Lib.hid (HYES.out (by
        have := HI.out
        rw [List.take_of_length_le (by rw [HLL.out]; exact Nat.le_refl _)] at this
        exact this))
      clear hlt hi
      go_wp2_with fail
      refine (H0.out _).mono ?_
      rintro e w' ⟨rfl, rfl⟩
      cases b0 with
      | false =>
        go_wp2_with fail
        go_ret
        exact ⟨ret_bool HE.out.symm, HWZ.out.1⟩
      | true =>
        go_wp2_with fail
        refine (H1.out _).mono ?_
        rintro e w' ⟨rfl, rfl⟩
        cases b1 with
        | false =>
          go_wp2_with fail
          go_ret
          exact ⟨ret_bool HE.out.symm, HWZ.out.1⟩
        | true =>
          go_wp2_with fail
          refine (H2.out _).mono ?_
          rintro e w' ⟨rfl, rfl⟩
          cases b2 with
          | false =>
            go_wp2_with fail
            go_ret
            exact ⟨ret_bool HE.out.symm, HWZ.out.1⟩
          | true =>
            go_wp2_with (refine load_joG rfl _ rfl V rfl j v HWZ.out.2 ?_)
            refine (H3.out _).mono ?_
            rintro e w5 ⟨rfl, H5⟩
            have HW5 : Hid (Below w.heap.size w w5) := Lib.hid (below_then HWZ.out.1 H5.out)
            cases b3 with
            | false =>
              go_wp2_with fail
              go_ret
              exact ⟨ret_bool HE.out.symm, HW5.out⟩
            | true =>
              obtain ⟨y0, y1, y2, y3, y4, y5, y6, y7, y8, y9, y10, y11, y12, y13, y14, y15⟩ := jo_at (has_under HWZ.out.2 H5.out)
              go_wp2_with fail
              refine (H4.out _).mono ?_
              rintro e w' ⟨rfl, rfl⟩
              go_wp2_with fail
              go_ret
              exact ⟨ret_bool (by rw [HE.out]; rfl), HW5.out⟩
end Im
end Go.Proofs.Ytghlgmlelipjfaa.Job
namespace Go.Proofs.Ytghlgmlelipjfaa.Job
open Go.RowKit Go.Lib
open Goods (St Sts OwnS)
namespace Im
open Classical in
set_option maxRecDepth 100000 in
set_option maxHeartbeats 4000000 in
theorem check_im (j : JS) (a : Option Addr) (n c : Nat) (w : World) (h : JIn w a n j.s) (hn : n ≤ 1024) : Calls Try.prog 10 #[jV j (.slice a n c)] w fun e w' => e = .returned (.int .i64 (chk j)) ∧ Below w.heap.size w w' := by
  obtain ⟨q, hq⟩ : ∃ q, chk j = q := ⟨_, rfl⟩
  rw [hq]
  obtain ⟨V, X, hV, hX, HXB, HH⟩ := box_jo w j (.slice a n c)
  have HW : Hid (∀ W, Below X.heap.size X W → Below w.heap.size w W ∧ Has W V j (.slice a n c)) := Lib.hid fun W hW => ⟨below_then HXB.out.1 hW, has_under HH.out hW⟩
  obtain ⟨b1, h1⟩ : ∃ b, decide (Asked j) = b := ⟨_, rfl⟩
  obtain ⟨b2, h2⟩ : ∃ b, decide (Locks j) = b := ⟨_, rfl⟩
  obtain ⟨b3, h3⟩ : ∃ b, decide (Stands j) = b := ⟨_, rfl⟩
  have H1 : Hid (∀ W, Below X.heap.size X W → Calls Try.prog 29 #[jV j (.slice a n c)] W fun e w' => e = .returned (.bool b1) ∧ Hid (Below X.heap.size X w')) := Lib.hid (fun W hW => by
    rw [← h1]
    exact (mayBeAsked_is j _ W).mono fun _ _ ⟨e, h⟩ => ⟨e, Lib.hid (below_then hW h)⟩)
  have H2 : Hid (∀ W, Below X.heap.size X W → Calls Try.prog 30 #[jV j (.slice a n c)] W fun e w' => e = .returned (.bool b2) ∧ Hid (Below X.heap.size X w')) := Lib.hid (fun W hW => by
    rw [← h2]
    exact (mayLock_is j a n c W ((h.under HXB.out.1).under hW) hn).mono fun _ _ ⟨e, h⟩ => ⟨e, Lib.hid (below_then hW h)⟩)
  have H3 : Hid (b1 = true → ∀ W, Below X.heap.size X W → Calls Try.prog 31 #[jV j (.slice a n c)] W fun e w' => e = .returned (.bool b3) ∧ Hid (Below X.heap.size X w')) := Lib.hid (fun e1 W hW => by
    have ht : j.tm ≤ 1099511627776 := (of_decide_eq_true (h1.trans e1) : Asked j).tm.2
    rw [← h3]
    exact (mayStand_is j _ W ht).mono fun _ _ ⟨e, h⟩ => ⟨e, Lib.hid (below_then hW h)⟩)
  have HQ : Hid (q = bif (b1 && (b2 && b3)) then 0 else 1) := Lib.hid (by
    have e : decide (Ok j) = (b1 && (b2 && b3)) := by
      rw [← h1, ← h2, ← h3, ← Bool.decide_and, ← Bool.decide_and]
      exact decide_eq_decide.2 ⟨fun h => ⟨h.asked, h.locks, h.stands⟩, fun ⟨a1, a2, a3⟩ => ⟨a1, a2, a3⟩⟩
    rw [← hq, ← e]
    by_cases ho : Ok j
    · rw [chk_yes ho, decide_eq_true ho]
      rfl
    · rw [chk_no ho, decide_eq_false ho]
      rfl)
  clear hq h1 h2 h3 h hn
  go_enter Try.func10, Try.ntmps10
  go_wp2_with (refine load_jo rfl _ rfl V rfl j (.slice a n c) HH.out ?_)
  clear hX hV
  refine (H1.out _ (Below.refl _ _)).mono ?_
  rintro e w1 ⟨rfl, G1⟩
  cases b1 with
  | false =>
    go_wp2_with fail
    go_ret
    exact ⟨ret_i64 HQ.out.symm, (HW.out w1 G1.out).1⟩
  | true =>
    have K1 := Lib.hid (HW.out w1 G1.out).2
    go_wp2_with (refine load_joG rfl _ rfl V rfl j (.slice a n c) K1.out ?_)
    refine (H2.out _ G1.out).mono ?_
    rintro e w2 ⟨rfl, G2⟩
    cases b2 with
    | false =>
      go_wp2_with fail
      go_ret
      exact ⟨ret_i64 HQ.out.symm, (HW.out w2 G2.out).1⟩
    | true =>
      have K2 := Lib.hid (HW.out w2 G2.out).2
      have H3 := Lib.hid (H3.out (by first | trivial | rfl) w2 G2.out)
      go_wp2_with (refine load_joG rfl _ rfl V rfl j (.slice a n c) K2.out ?_)
      refine H3.out.mono ?_
      rintro e w3 ⟨rfl, G3⟩
      cases b3 with
      | false =>
        go_wp2_with fail
        go_ret
        exact ⟨ret_i64 HQ.out.symm, (HW.out w3 G3.out).1⟩
      | true =>
        go_wp2_with fail
        go_ret
        exact ⟨ret_i64 HQ.out.symm, (HW.out w3 G3.out).1⟩
end Im
end Go.Proofs.Ytghlgmlelipjfaa.Job
