/- The document's Check. -/
import Derived.Test.YtghlgmlelipjfaaGoodsG
namespace Go.Proofs.Ytghlgmlelipjfaa.Goods
open Go.RowKit Go.Lib

/-- These may be the stacks of a list. -/
def Listed (l : List St) (types : Int) : Prop := l.length ≤ 8 ∧ errN l = 0 ∧ nl l = l ∧ ∀ s ∈ l, s.kind ≤ types
open Classical in
noncomputable def chk (l : List St) (types : Int) : Int := if Listed l types then 0 else 1
theorem chk_no {l : List St} {types : Int} (h : ¬ Listed l types) : chk l types = 1 := by unfold chk; rw [if_neg h]
theorem chk_yes {l : List St} {types : Int} (h : Listed l types) : chk l types = 0 := by unfold chk; rw [if_pos h]
theorem rise_last {l : List St} (h : l.Pairwise (fun s t => s.kind < t.kind)) {n : Nat} (hn : l.length = n) {t : St} (ht : l[n - 1]? = some t) : ∀ s ∈ l, s.kind ≤ t.kind := by
  intro s hs
  obtain ⟨i, hi, rfl⟩ := List.mem_iff_getElem.1 hs
  by_cases e : i = n - 1
  · subst e
    rw [List.getElem?_eq_getElem hi] at ht
    injection ht with ht
    rw [ht]
    omega
  · have hj : n - 1 < l.length := by omega
    have := List.pairwise_iff_getElem.1 h i (n - 1) hi hj (by omega)
    rw [List.getElem?_eq_getElem hj] at ht
    injection ht with ht
    rw [ht] at this
    omega
open Classical in
set_option maxRecDepth 100000 in
set_option maxHeartbeats 2000000 in
theorem dcheck (a : Option Addr) (n c : Nat) (l : List St) (ty : Int) (w : World) (hl : l.length = n) (hs : Sts w a l) (hn : n ≤ 4096) :
    Calls Try.prog 32 #[.slice a n c, .int .i64 ty] w fun e w' => e = .returned (.int .i64 (chk l ty)) ∧ Below w.heap.size w w' := by
  by_cases h8 : n ≤ 8
  · have HN := Lib.hid (dnorm2 a n c l w hl hs hn)
    have hi0 : (n : Int) ≤ 8 := by omega
    have hd8 : decide (8 < (n : Int)) = false := by simp; omega
    by_cases he : errN l = 0
    · have HS : Hid (∀ W a' m c', Below w.heap.size w W → (valN l).length = m → Sts W a' (valN l) → Calls Try.prog 28 #[.slice a' m c', .slice a n c] W fun e w' => e = .returned (.bool (decide (nl l = l))) ∧ Hid (Below w.heap.size w w')) := Lib.hid (fun W a' m c' hW hm hst => by
        have h1 := len_valN l
        have := dsame a' m c' (valN l) a n c l W hm hst (by omega) hl (hs.under hW) (by omega)
        rw [valN_ok he] at this
        exact this.mono fun _ _ ⟨e, hb⟩ => ⟨e, Lib.hid (below_then hW hb)⟩)
      rw [he] at HN
      by_cases hsm : nl l = l
      · have hq : (decide (nl l = l)) = true := decide_eq_true hsm
        rw [hq] at HS
        by_cases h0 : n = 0
        · have hc : chk l ty = 0 := chk_yes ⟨by omega, he, hsm, fun s h => by have : l = [] := List.length_eq_zero_iff.1 (by omega); rw [this] at h; simp at h⟩
          rw [hc]
          subst h0
          clear hl hs hn h8 he hsm hq hc
          go_enter Try.func32, Try.ntmps32
          go_wp2_with fail
          refine HN.out.mono ?_
          rintro e w1 ⟨a', m, c', rfl, _, HV⟩
          go_wp2_with fail
          refine (HS.out w1 a' m c' HV.out.2.2.2 HV.out.1 HV.out.2.1).mono ?_
          rintro e w2 ⟨rfl, HB⟩
          go_wp2_with fail
          go_ret
          exact ⟨rfl, HB.out⟩
        · have HT := sts_at hs
          have HL := Lib.hid hl
          have hr : l.Pairwise (fun s t => s.kind < t.kind) := by have := (norm_valN l).rise; rw [valN_ok he, hsm] at this; exact this
          have HC : Hid (∀ t, l[n - 1]? = some t → chk l ty = if ty < t.kind then 1 else 0) := Lib.hid (fun t ht => by
            by_cases h : ty < t.kind
            · rw [if_pos h]
              exact chk_no fun ⟨_, _, _, h4⟩ => by have := h4 t (List.mem_of_getElem? ht); omega
            · rw [if_neg h]
              exact chk_yes ⟨by omega, he, hsm, fun s h5 => by have := rise_last hr hl ht s h5; omega⟩)
          have hn0 : 0 < n := by omega
          have hn1 : decide (0 < (n : Int)) = true := by simp; omega
          obtain ⟨n1, hn2⟩ : ∃ n1, n = n1 + 1 := ⟨n - 1, by omega⟩
          subst hn2
          have hd9 : decide (8 < (n1 : Int) + 1) = false := by simp; omega
          have hw1 : IntKind.i64.wrap (((n1 + 1 : Nat) : Int) - 1) = (n1 : Int) := by rw [IntWalk.i64_in _ (by omega)]; omega
          clear hl hs hn h8 he hsm hq hr h0
          go_enter Try.func32, Try.ntmps32
          go_wp2_with fail
          refine HN.out.mono ?_
          rintro e w1 ⟨a', m, c', rfl, _, HV⟩
          go_wp2_with fail
          refine (HS.out w1 a' m c' HV.out.2.2.2 HV.out.1 HV.out.2.1).mono ?_
          rintro e w2 ⟨rfl, HB⟩
          obtain ⟨g, off, t, rfl, hti, q0, q1⟩ := HT.out w2 n1 HB.out (by rw [HL.out]; omega)
          have hc := HC.out t hti.out
          by_cases hlt : ty < t.kind
          · have HK : Hid (chk l ty = 1) := Lib.hid (by rw [hc, if_pos hlt])
            clear hc
            go_wp2_with fail
            go_ret
            exact ⟨by rw [HK.out]; rfl, HB.out⟩
          · have HK : Hid (chk l ty = 0) := Lib.hid (by rw [hc, if_neg hlt])
            clear hc
            go_wp2_with fail
            go_ret
            exact ⟨by rw [HK.out]; rfl, HB.out⟩
      · have hq : (decide (nl l = l)) = false := decide_eq_false hsm
        rw [hq] at HS
        have hc : chk l ty = 1 := chk_no fun ⟨_, _, h3, _⟩ => hsm h3
        rw [hc]
        clear hl hs hn h8 he hsm hq hc
        go_enter Try.func32, Try.ntmps32
        go_wp2_with fail
        refine HN.out.mono ?_
        rintro e w1 ⟨a', m, c', rfl, _, HV⟩
        go_wp2_with fail
        refine (HS.out w1 a' m c' HV.out.2.2.2 HV.out.1 HV.out.2.1).mono ?_
        rintro e w2 ⟨rfl, HB⟩
        go_wp2_with fail
        go_ret
        exact ⟨rfl, HB.out⟩
    · have hc : chk l ty = 1 := chk_no fun ⟨_, h2, _, _⟩ => he h2
      rw [hc]
      obtain ⟨er, her⟩ : ∃ er, errN l = er := ⟨_, rfl⟩
      rw [her] at HN he
      have hne : (er == 0) = false := by simpa using he
      have hne2 : ¬ er = 0 := he
      clear hl hs hn h8 her he hc
      go_enter Try.func32, Try.ntmps32
      go_wp2_with fail
      refine HN.out.mono ?_
      rintro e w1 ⟨a', m, c', rfl, _, HV⟩
      go_wp2_with fail
      go_ret
      exact ⟨rfl, HV.out.2.2.2⟩
  · have hc : chk l ty = 1 := chk_no fun ⟨h1, _⟩ => h8 (by omega)
    rw [hc]
    have hd8 : decide (8 < (n : Int)) = true := by simp; omega
    have hd9 : (8 : Int) < (n : Int) := by omega
    clear hl hs hn h8 hc
    go_enter Try.func32, Try.ntmps32
    go_wp2_with fail
    go_ret
    exact ⟨rfl, Below.refl _ _⟩
end Go.Proofs.Ytghlgmlelipjfaa.Goods
