/- Jobs that ask one by one; lines that there were. -/
import Derived.Test.YtokkefokodcphaaBayImN
namespace Go.Proofs.Ytokkefokodcphaa.Bay
open Go.RowKit Go.Lib IRows

/-- Jobs ask one by one at the k-th side; none: one may not, or does otherwise. -/
def asks (k : Nat) (b : Bool) : List Ln → List Int → Option (List Ln)
  | L, [] => some L
  | L, j :: l => if (ask L ((k / 2 : Nat) + 1) (k % 2 : Nat) j).2.2 = 0 ∧ (ask L ((k / 2 : Nat) + 1) (k % 2 : Nat) j).2.1 = b then asks k b (ask L ((k / 2 : Nat) + 1) (k % 2 : Nat) j).1 l else none
theorem good_asks {k : Nat} {b : Bool} : ∀ {l : List Int} {L L' : List Ln}, Good L → asks k b L l = some L' → Good L'
  | [], L, L', h, e => by
    obtain rfl := Option.some.inj e
    exact h
  | j :: l, L, L', h, e => by
    unfold asks at e
    split at e
    · exact good_asks (good_ask h _ _ _) e
    · cases e
set_option maxRecDepth 100000 in
set_option maxHeartbeats 2000000 in
theorem asks_pbn {Q : Nat} {lv : Value} {xs : List XL} (k : Nat) (a : Option Addr) (n c : Nat) (l : List Int) (b : Bool) (w W : World) (h : PBN w W Q lv xs) (hg : Good (xs.map XL.pl)) (hk : k ≤ 1000) (hl : l.length = n) (hn : n ≤ 1000) (hs : ∀ W, Below w.heap.size w W → IRow W a l) :
    Calls Try.prog 22 #[ptr Q, .int .i64 k, .slice a n c, .bool b] W fun e w' => e = .returned (.bool (asks k b (xs.map XL.pl) l).isSome) ∧ Hid (Below w.heap.size w w' ∧ (∃ F', StepF W w' (foot Q lv xs) F') ∧ ∀ L, asks k b (xs.map XL.pl) l = some L → ∃ ys, PBN w w' Q lv ys ∧ ys.map XL.pl = L) := by
  obtain ⟨p, hp⟩ : ∃ p, asks k b (xs.map XL.pl) l = p := ⟨_, rfl⟩
  have HC : Hid (∀ W i, Below w.heap.size w W → i < n → ∃ g off x, a = some ⟨g, off, none⟩ ∧ Hid (l[i]? = some x) ∧ W.cell? ⟨g, off + i, none⟩ = some (.int .i64 x)) := Lib.hid (fun W i hW hi => by
    have hx := List.getElem?_eq_getElem (l := l) (i := i) (by omega)
    obtain ⟨g, off, e, _, h1⟩ := hs W hW i _ hx
    exact ⟨g, off, _, e, Lib.hid hx, h1⟩)
  have H0 : Hid (∃ ys, PBN w W Q lv ys ∧ Good (ys.map XL.pl) ∧ asks k b (ys.map XL.pl) (l.drop 0) = p ∧ StepF W W (foot Q lv xs) (foot Q lv ys)) := Lib.hid ⟨xs, h, hg, hp, StepF.refl _ _⟩
  have HL : Hid (l.drop n = []) := Lib.hid (List.drop_eq_nil_of_le (by omega))
  have hn1 : (n : Int) ≤ 1000 := by omega
  have hk1 : (k : Int) ≤ 1000 := by omega
  have w1 : (k : Int).tdiv 2 = ((k / 2 : Nat) : Int) := by rw [Int.tdiv_eq_ediv_of_nonneg (by omega)]; omega
  have w2 : (k : Int).tmod 2 = ((k % 2 : Nat) : Int) := by rw [Int.tmod_eq_emod_of_nonneg (by omega)]; omega
  have w3 : IntKind.i64.wrap (((k / 2 : Nat) : Int) + 1) = ((k / 2 : Nat) : Int) + 1 := IntWalk.i64_in _ (by omega)
  rw [hp]
  clear h hg hk hl hn hs hp
  go_enter Try.func22, Try.ntmps22
  go_wp2_with fail
  go_loopw [15] (fun s wr => ∃ i : Nat, s = .int .i64 i ∧ i ≤ n ∧ Hid (∃ ys, PBN w wr Q lv ys ∧ Good (ys.map XL.pl) ∧ asks k b (ys.map XL.pl) (l.drop i) = p ∧ StepF W wr (foot Q lv xs) (foot Q lv ys))) (fun s _ => n - (RowKit.intOf s).toNat)
  case atStart => exact ⟨0, rfl, by omega, H0⟩
  case round =>
    obtain ⟨i, rfl, hi, HP⟩ := hrel
    by_cases hlt : i < n
    · have hlt2 : (i : Int) < (n : Int) := by omega
      obtain ⟨ys, hy⟩ := HP.out
      obtain ⟨g, off, x, rfl, hx, q0⟩ := HC.out wr i hy.1.below hlt
      have H1 : Hid (Calls Try.prog 16 #[ptr Q, .int .i64 (((k / 2 : Nat) : Int) + 1), .int .i64 ((k % 2 : Nat) : Int), .int .i64 x] wr fun e w' => e = .returned (.tuple #[.bool (ask (ys.map XL.pl) ((k / 2 : Nat) + 1) (k % 2 : Nat) x).2.1, .int .i64 (ask (ys.map XL.pl) ((k / 2 : Nat) + 1) (k % 2 : Nat) x).2.2]) ∧ Hid (∃ zs, PBN w w' Q lv zs ∧ zs.map XL.pl = (ask (ys.map XL.pl) ((k / 2 : Nat) + 1) (k % 2 : Nat) x).1 ∧ StepF W w' (foot Q lv xs) (foot Q lv zs))) := Lib.hid (by
        refine (ask_pbx _ _ x wr hy.1.pb hy.2.1).mono ?_
        rintro e w' ⟨rfl, H⟩
        obtain ⟨zs, h1, h2, h3⟩ := H.out
        have hf := h3.fresh hy.1.below hy.1.new
        exact ⟨rfl, Lib.hid ⟨zs, ⟨h1, hf.1, hf.2⟩, h2, hy.2.2.2.trans h3⟩⟩)
      have hd : l.drop i = x :: l.drop (i + 1) := by
        have h1 := (List.getElem?_eq_some_iff.1 hx.out)
        obtain ⟨h1, h2⟩ := h1
        rw [List.drop_eq_getElem_cons h1, h2]
      have HA : Hid ((if (ask (ys.map XL.pl) ((k / 2 : Nat) + 1) (k % 2 : Nat) x).2.2 = 0 ∧ (ask (ys.map XL.pl) ((k / 2 : Nat) + 1) (k % 2 : Nat) x).2.1 = b then asks k b (ask (ys.map XL.pl) ((k / 2 : Nat) + 1) (k % 2 : Nat) x).1 (l.drop (i + 1)) else none) = p) := Lib.hid (by
        have := hy.2.2.1
        rw [hd] at this
        exact this)
      have HG : Hid (Good (ask (ys.map XL.pl) ((k / 2 : Nat) + 1) (k % 2 : Nat) x).1) := Lib.hid (good_ask hy.2.1 _ _ _)
      obtain ⟨t, ht⟩ : ∃ t, ask (ys.map XL.pl) ((k / 2 : Nat) + 1) (k % 2 : Nat) x = t := ⟨_, rfl⟩
      rw [ht] at H1 HA HG
      obtain ⟨L', r, er⟩ := t
      have HBL := Lib.hid hy.1.below
      clear hd hy HP ht
      dsimp only at H1 HA HG
      by_cases c1 : er = 0
      · subst c1
        by_cases c2 : r = b
        · have HA2 : Hid (asks k b L' (l.drop (i + 1)) = p) := Lib.hid (by
            have := HA.out
            rwa [if_pos ⟨rfl, c2⟩] at this)
          subst c2
          cases r
          all_goals
            go_wp2_with fail
            refine H1.out.mono ?_
            rintro e w2 ⟨rfl, H2⟩
            have HP2 : Hid (∃ ys, PBN w w2 Q lv ys ∧ Good (ys.map XL.pl) ∧ asks k _ (ys.map XL.pl) (l.drop (i + 1)) = p ∧ StepF W w2 (foot Q lv xs) (foot Q lv ys)) := Lib.hid (by
              obtain ⟨zs, h1, h2, h3⟩ := H2.out
              exact ⟨zs, h1, by rw [h2]; exact HG.out, by rw [h2]; exact HA2.out, h3⟩)
            go_wp2_with fail
            go_roundw
            case rel => exact ⟨i + 1, by go_num, by omega, HP2⟩
            case measure => simp [RowKit.intOf]; omega
        · have HE : Hid (p = none) := Lib.hid (by
            have := HA.out
            rw [if_neg (fun h => c2 h.2)] at this
            exact this.symm)
          cases r
          all_goals
            cases b
            all_goals
              first
                | exact absurd rfl c2
                | clear c2
                  go_wp2_with fail
                  refine H1.out.mono ?_
                  rintro e w2 ⟨rfl, H2⟩
                  have HEND : Hid (Below w.heap.size w w2 ∧ (∃ F', StepF W w2 (foot Q lv xs) F') ∧ ∀ L, p = some L → ∃ ys, PBN w w2 Q lv ys ∧ ys.map XL.pl = L) := Lib.hid (by
                    obtain ⟨zs, h1, h2, h3⟩ := H2.out
                    exact ⟨h1.below, ⟨_, h3⟩, fun L e => by rw [HE.out] at e; cases e⟩)
                  go_wp2_with fail
                  go_ret
                  exact ⟨by rw [HE.out]; rfl, HEND⟩
      · have HE : Hid (p = none) := Lib.hid (by
          have := HA.out
          rw [if_neg (fun h => c1 h.1)] at this
          exact this.symm)
        have d1 : (er != 0) = true := by simpa using c1
        clear c1
        go_wp2_with fail
        refine H1.out.mono ?_
        rintro e w2 ⟨rfl, H2⟩
        have HEND : Hid (Below w.heap.size w w2 ∧ (∃ F', StepF W w2 (foot Q lv xs) F') ∧ ∀ L, p = some L → ∃ ys, PBN w w2 Q lv ys ∧ ys.map XL.pl = L) := Lib.hid (by
          obtain ⟨zs, h1, h2, h3⟩ := H2.out
          exact ⟨h1.below, ⟨_, h3⟩, fun L e => by rw [HE.out] at e; cases e⟩)
        go_wp2_with fail
        go_ret
        exact ⟨by rw [HE.out]; rfl, HEND⟩
    · obtain rfl : i = n := by omega
      obtain ⟨ys, hy⟩ := HP.out
      have HE : Hid (p = some (ys.map XL.pl)) := Lib.hid (by
        have := hy.2.2.1
        rw [HL.out] at this
        exact this.symm)
      have HEND : Hid (Below w.heap.size w wr ∧ (∃ F', StepF W wr (foot Q lv xs) F') ∧ ∀ L, p = some L → ∃ ys, PBN w wr Q lv ys ∧ ys.map XL.pl = L) := Lib.hid ⟨hy.1.below, ⟨_, hy.2.2.2⟩, fun L e => by
        rw [HE.out] at e
        exact ⟨ys, hy.1, Option.some.inj e⟩⟩
      clear hy HP
      go_wp2_with fail
      go_ret
      exact ⟨by rw [HE.out]; rfl, HEND⟩
end Go.Proofs.Ytokkefokodcphaa.Bay
