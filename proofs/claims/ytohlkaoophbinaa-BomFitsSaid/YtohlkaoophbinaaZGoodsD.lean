/- The document's both, Add. -/
import Derived.Test.YtohlkaoophbinaaZGoodsB
namespace Go.Proofs.Ytohlkaoophbinaa.Goods
open Go.RowKit Go.Lib

/-- The first error of two lists. -/
noncomputable def errB (a b : List St) : Int := if errN a = 0 then errN b else errN a
noncomputable def errA (a b : List St) : Int := if errB a b = 0 then errN (nl a ++ nl b) else errB a b
noncomputable def valA (a b : List St) : List St := if errB a b = 0 then valN (nl a ++ nl b) else []
theorem errB_zero {a b : List St} (h : errB a b = 0) : errN a = 0 ∧ errN b = 0 := by
  unfold errB at h
  split at h
  · rename_i h1; exact ⟨h1, h⟩
  · rename_i h1; exact absurd h h1
set_option maxRecDepth 100000 in
set_option maxHeartbeats 2000000 in
theorem dboth_no (a : Option Addr) (n c : Nat) (l : List St) (b : Option Addr) (m d : Nat) (k : List St) (w : World) (hl : l.length = n) (hs : Sts w a l) (hn : n ≤ 4096) (hk : k.length = m) (ht : Sts w b k) (hm : m ≤ 4096) (he : errB l k ≠ 0) :
    Calls Try.prog 49 #[.slice a n c, .slice b m d] w fun e w' => e = .returned (.tuple #[.slice none 0 0, .slice none 0 0, .int .i64 (errB l k)]) ∧ Below w.heap.size w w' := by
  have HN := Lib.hid (dnorm2 a n c l w hl hs hn)
  have HN2 : Hid (∀ W, Below w.heap.size w W → Calls Try.prog 34 #[.slice b m d] W fun e w' => ∃ a' m' c', e = .returned (.tuple #[.slice a' m' c', .int .i64 (errN k)]) ∧ Hid (Below w.heap.size w w')) := Lib.hid (fun W hW => (dnorm2 b m d k W hk (ht.under hW) hm).mono fun _ _ ⟨a', m', c', e, _, h⟩ => ⟨a', m', c', e, Lib.hid (below_then hW h.out.2.2.2)⟩)
  by_cases h0 : errN l = 0
  · have hE : errB l k = errN k := by unfold errB; rw [if_pos h0]
    rw [hE] at he ⊢
    rw [h0] at HN
    obtain ⟨er, her⟩ : ∃ er, errN k = er := ⟨_, rfl⟩
    rw [her] at he HN2 ⊢
    have hne : (er == 0) = false := by simpa using he
    clear hl hs hn hk ht hm h0 hE her he
    go_enter Try.func49, Try.ntmps49
    go_wp2_with fail
    refine HN.out.mono ?_
    rintro e w1 ⟨a1, m1, c1, rfl, _, HV⟩
    go_wp2_with fail
    refine (HN2.out w1 HV.out.2.2.2).mono ?_
    rintro e w2 ⟨a2, m2, c2, rfl, HB⟩
    go_wp2_with fail
    go_ret3
    exact ⟨rfl, HB.out⟩
  · have hE : errB l k = errN l := by unfold errB; rw [if_neg h0]
    rw [hE] at he ⊢
    obtain ⟨er, her⟩ : ∃ er, errN l = er := ⟨_, rfl⟩
    rw [her] at he HN ⊢
    have hne : (er == 0) = false := by simpa using he
    clear hl hs hn hk ht hm h0 hE her he
    go_enter Try.func49, Try.ntmps49
    go_wp2_with fail
    refine HN.out.mono ?_
    rintro e w1 ⟨a1, m1, c1, rfl, _, HV⟩
    go_wp2_with fail
    go_ret3
    exact ⟨rfl, HV.out.2.2.2⟩
set_option maxRecDepth 100000 in
set_option maxHeartbeats 2000000 in
theorem dboth_yes (a : Option Addr) (n c : Nat) (l : List St) (b : Option Addr) (m d : Nat) (k : List St) (w : World) (hl : l.length = n) (hs : Sts w a l) (hn : n ≤ 4096) (hk : k.length = m) (ht : Sts w b k) (hm : m ≤ 4096) (he : errB l k = 0) :
    Calls Try.prog 49 #[.slice a n c, .slice b m d] w fun e w' => ∃ a1 m1 c1 a2 m2 c2, e = .returned (.tuple #[.slice a1 m1 c1, .slice a2 m2 c2, .int .i64 0]) ∧
      Hid ((nl l).length = m1 ∧ OwnS w' w.heap.size (.slice a1 m1 c1) (nl l) ∧ (nl k).length = m2 ∧ OwnS w' w.heap.size (.slice a2 m2 c2) (nl k) ∧ Below w.heap.size w w') := by
  obtain ⟨h1, h2⟩ := errB_zero he
  have HN : Hid (Calls Try.prog 34 #[.slice a n c] w fun e w' => ∃ a' m' c', e = .returned (.tuple #[.slice a' m' c', .int .i64 0]) ∧ Hid ((nl l).length = m' ∧ OwnS w' w.heap.size (.slice a' m' c') (nl l) ∧ Below w.heap.size w w')) := Lib.hid (by
    have := dnorm2 a n c l w hl hs hn
    rw [h1, valN_ok h1] at this
    exact this.mono fun _ _ ⟨a', m', c', e, _, h⟩ => ⟨a', m', c', e, Lib.hid ⟨h.out.1, h.out.2.2.1, h.out.2.2.2⟩⟩)
  have HN2 : Hid (∀ W a1 m1 c1, Below w.heap.size w W → OwnS W w.heap.size (.slice a1 m1 c1) (nl l) → Calls Try.prog 34 #[.slice b m d] W fun e w' => ∃ a' m' c', e = .returned (.tuple #[.slice a' m' c', .int .i64 0]) ∧ Hid ((nl k).length = m' ∧ OwnS w' w.heap.size (.slice a1 m1 c1) (nl l) ∧ OwnS w' w.heap.size (.slice a' m' c') (nl k) ∧ Below w.heap.size w w')) := Lib.hid (fun W a1 m1 c1 hW ho => by
    have := dnorm2 b m d k W hk (ht.under hW) hm
    rw [h2, valN_ok h2] at this
    exact this.mono fun _ _ ⟨a', m', c', e, _, h⟩ => ⟨a', m', c', e, Lib.hid ⟨h.out.1, own_under ho h.out.2.2.2, World.ownsRow.mono h.out.2.2.1 hW.size, below_then hW h.out.2.2.2⟩⟩)
  clear hl hs hn hk ht hm h1 h2 he
  go_enter Try.func49, Try.ntmps49
  go_wp2_with fail
  refine HN.out.mono ?_
  rintro e w1 ⟨a1, m1, c1, rfl, HV⟩
  go_wp2_with fail
  refine (HN2.out w1 a1 m1 c1 HV.out.2.2 HV.out.2.1).mono ?_
  rintro e w2 ⟨a2, m2, c2, rfl, HB⟩
  go_wp2_with fail
  go_ret3
  exact ⟨a1, m1, c1, a2, m2, c2, rfl, Lib.hid ⟨HV.out.1, HB.out.2.1, HB.out.1, HB.out.2.2.1, HB.out.2.2.2⟩⟩
set_option maxRecDepth 100000 in
set_option maxHeartbeats 2000000 in
theorem dadd (a : Option Addr) (n c : Nat) (l : List St) (b : Option Addr) (m d : Nat) (k : List St) (w : World) (hl : l.length = n) (hs : Sts w a l) (hn : n ≤ 2048) (hk : k.length = m) (ht : Sts w b k) (hm : m ≤ 2048) :
    Calls Try.prog 18 #[.slice a n c, .slice b m d] w fun e w' => ∃ a' z c', e = .returned (.tuple #[.slice a' z c', .int .i64 (errA l k)]) ∧ (valA l k).length = z ∧ OwnS w' w.heap.size (.slice a' z c') (valA l k) ∧ Below w.heap.size w w' := by
  by_cases he : errB l k = 0
  · have HB := Lib.hid (dboth_yes a n c l b m d k w hl hs (by omega) hk ht (by omega) he)
    have hA : errA l k = errN (nl l ++ nl k) := by unfold errA; rw [if_pos he]
    have hV : valA l k = valN (nl l ++ nl k) := by unfold valA; rw [if_pos he]
    rw [hA, hV]
    have h1 := len_nl l
    have h2 := len_nl k
    have HX : Hid (∀ W a1 m1 c1 a2 m2 c2, Below w.heap.size w W → (nl l).length = m1 → OwnS W w.heap.size (.slice a1 m1 c1) (nl l) → (nl k).length = m2 → OwnS W w.heap.size (.slice a2 m2 c2) (nl k) → ∃ a3 m3 c3 W3 a4 m4 c4 W4,
        Hid ((Builtin.append_ #[30, 30] 30 #[.slice none 0 0, .slice a1 m1 c1]).run Try.prog W = .ok (.slice a3 m3 c3) W3) ∧ Hid ((Builtin.append_ #[30, 30] 30 #[.slice a3 m3 c3, .slice a2 m2 c2]).run Try.prog W3 = .ok (.slice a4 m4 c4) W4) ∧
        Hid (Calls Try.prog 34 #[.slice a4 m4 c4] W4 fun e w' => ∃ a' z c', e = .returned (.tuple #[.slice a' z c', .int .i64 (errN (nl l ++ nl k))]) ∧ Hid ((valN (nl l ++ nl k)).length = z ∧ OwnS w' w.heap.size (.slice a' z c') (valN (nl l ++ nl k)) ∧ Below w.heap.size w w'))) := Lib.hid (fun W a1 m1 c1 a2 m2 c2 hW e1 o1 e2 o2 => by
      subst e1; subst e2
      obtain ⟨_, _, q1, s1⟩ := sts_own o1
      injection q1 with q1 _ q2
      subst q1; subst q2
      have t1 : ∀ j u, (scells (nl l))[j]? = some u → ∃ ad, a1 = some ad ∧ W.cell? (ad.add j) = some u := fun j u hj => by
        obtain ⟨a', c', e, _, _, _, hat⟩ := rowS o1
        injection e with e _ _
        subst e
        obtain ⟨g, e, _, h⟩ := hat j u hj
        exact ⟨_, e, by rw [addr_add, Nat.zero_add]; exact h⟩
      obtain ⟨v3, W3, r3, o3, b3⟩ := app_st W W.heap.size (.slice none 0 0) [] (nl l) (World.ownsRow_nil _ _ _ _) a1 (nl l).length c1 rfl t1 (by simp; omega) (Nat.le_refl _)
      rw [List.nil_append] at o3
      obtain ⟨a3, c3, rfl, _⟩ := rowS o3
      have o2' := own_under o2 b3
      have t2 : ∀ j u, (scells (nl k))[j]? = some u → ∃ ad, a2 = some ad ∧ W3.cell? (ad.add j) = some u := fun j u hj => by
        obtain ⟨a', c', e, _, _, _, hat⟩ := rowS o2'
        injection e with e _ _
        subst e
        obtain ⟨g, e, _, h⟩ := hat j u hj
        exact ⟨_, e, by rw [addr_add, Nat.zero_add]; exact h⟩
      obtain ⟨v4, W4, r4, o4, b4⟩ := app_st W3 W.heap.size _ (nl l) (nl k) o3 a2 (nl k).length c2 rfl t2 (by omega) b3.size
      obtain ⟨a4, c4, rfl, s4⟩ := sts_own o4
      have hb4 := below_then hW (below_cat b3 b4)
      refine ⟨a3, _, c3, W3, a4, _, c4, W4, Lib.hid r3, Lib.hid r4, Lib.hid ?_⟩
      exact (dnorm2 a4 _ c4 (nl l ++ nl k) W4 rfl s4 (by rw [List.length_append]; omega)).mono fun _ _ ⟨a', z, c', e, _, h⟩ => ⟨a', z, c', e, Lib.hid ⟨h.out.1, World.ownsRow.mono h.out.2.2.1 hb4.size, below_then hb4 h.out.2.2.2⟩⟩)
    clear hl hs hn hk ht hm he hA hV h1 h2
    go_enter Try.func18, Try.ntmps18
    go_wp2_with fail
    refine HB.out.mono ?_
    rintro e w1 ⟨a1, m1, c1, a2, m2, c2, rfl, HV⟩
    obtain ⟨a3, m3, c3, W3, a4, m4, c4, W4, HR1, HR2, HN⟩ := HX.out w1 a1 m1 c1 a2 m2 c2 HV.out.2.2.2.2 HV.out.1 HV.out.2.1 HV.out.2.2.1 HV.out.2.2.2.1
    go_wp2_with (at_builtin; first | (refine walk_run (v' := .slice a3 m3 c3) (w' := W3) rfl _ _ _ _ rfl _ _ rfl rfl ?_ ?_; exact HR1.out) | (refine walk_run (v' := .slice a4 m4 c4) (w' := W4) rfl _ _ _ _ rfl _ _ rfl rfl ?_ ?_; exact HR2.out))
    refine HN.out.mono ?_
    rintro e w2 ⟨a', z, c', rfl, HE⟩
    go_wp2_with fail
    go_ret2
    exact ⟨a', z, c', rfl, HE.out⟩
  · have HB := Lib.hid (dboth_no a n c l b m d k w hl hs (by omega) hk ht (by omega) he)
    have hA : errA l k = errB l k := by unfold errA; rw [if_neg he]
    have hV : valA l k = [] := by unfold valA; rw [if_neg he]
    rw [hA, hV]
    obtain ⟨er, her⟩ : ∃ er, errB l k = er := ⟨_, rfl⟩
    rw [her] at he HB ⊢
    have hne : (er == 0) = false := by simpa using he
    clear hl hs hn hk ht hm hA hV her he
    go_enter Try.func18, Try.ntmps18
    go_wp2_with fail
    refine HB.out.mono ?_
    rintro e w1 ⟨rfl, hb⟩
    have HBB := Lib.hid hb
    clear hb
    go_wp2_with fail
    go_ret2
    exact ⟨none, 0, 0, rfl, rfl, World.ownsRow_nil _ _ _ _, HBB.out⟩
end Go.Proofs.Ytohlkaoophbinaa.Goods
