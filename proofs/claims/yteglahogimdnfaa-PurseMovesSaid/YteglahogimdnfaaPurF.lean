/- The document's Do, Load. -/
import Derived.Test.YteglahogimdnfaaPurE
namespace Go.Proofs.Yteglahogimdnfaa.Purse
open Go.RowKit Go.Lib

/-- An act. -/
structure Act where
  kind : Int
  a : Int
  b : Int
  n : Int
abbrev actV (x : Act) : Value := .agg #[.int .i64 x.kind, .int .i64 x.a, .int .i64 x.b, .int .i64 x.n]
def doL (l : List Ac) (x : Act) : List Ac := if x.kind = 1 then openL l x.a else if x.kind = 2 then giveL l x.a x.n else if x.kind = 3 then takeL l x.a x.n else if x.kind = 4 then moveL l x.a x.b x.n else l
def doN (l : List Ac) (x : Act) : Int := if x.kind = 1 ∨ x.kind = 2 ∨ x.kind = 3 ∨ x.kind = 4 then 0 else monV l x.a
def doE (l : List Ac) (x : Act) : Int := if x.kind = 1 then openE l x.a else if x.kind = 2 then giveE l x.a x.n else if x.kind = 3 then takeE l x.a x.n else if x.kind = 4 then moveE l x.a x.b x.n else monE l x.a
theorem good_do {l : List Ac} (h : Good l) (x : Act) : Good (doL l x) ∧ (doL l x).length ≤ l.length + 1 := by
  unfold doL
  split
  · exact ⟨good_open h _, open_length _ _⟩
  split
  · exact ⟨good_give h _ _, by rw [give_length]; omega⟩
  split
  · exact ⟨good_take h _ _, by rw [takeL_length]; omega⟩
  split
  · exact ⟨good_move h _ _ _, by rw [move_length]; omega⟩
  · exact ⟨h, by omega⟩
theorem Res.under {w X w' : World} {v v' : Value} {l' : List Ac} (hb : Below w.heap.size w X) (h : Res X w' v v' l') : Res w w' v v' l' :=
  ⟨h.own, below_then hb h.below, fun k hk => by
    rcases h.was k hk with h1 | h1
    · exact .inl h1
    · exact .inr (Nat.le_trans hb.size h1)⟩
set_option maxRecDepth 100000 in
set_option maxHeartbeats 4000000 in
theorem ddo {a : Option Addr} {n c : Nat} {l : List Ac} (x : Act) (w : World) (hr : OwnA w 0 (.slice a n c) l) (hn : n ≤ 1000) (hg : Good l) :
    Calls Try.prog 10 #[.slice a n c, actV x] w fun e w' => ∃ a' n' c', e = .returned (.tuple #[.slice a' n' c', .int .i64 (doN l x), .int .i64 (doE l x)]) ∧ Hid (Res w w' (.slice a n c) (.slice a' n' c') (doL l x)) := by
  obtain ⟨kd, xa, xb, xn⟩ := x
  obtain ⟨V, hV⟩ : ∃ V, w.heap.size = V := ⟨_, rfl⟩
  obtain ⟨X, hX⟩ : ∃ X, w.alloc (.cells #[.int .i64 kd, .int .i64 xa, .int .i64 xb, .int .i64 xn] 34) = X := ⟨_, rfl⟩
  have hbX : Below w.heap.size w X := by rw [← hX]; exact (Below.refl _ w).alloc (Nat.le_refl _) _
  have hkX : X.heap[V]? = some (.cells #[.int .i64 kd, .int .i64 xa, .int .i64 xb, .int .i64 xn] 34 (0, 0)) := by rw [← hX, ← hV]; exact heap_alloc_new w _
  have k0 : X.cell? ⟨V, 0, none⟩ = some (.int .i64 kd) := cell_block (j := 0) hkX rfl
  have k1 : X.cell? ⟨V, 1, none⟩ = some (.int .i64 xa) := cell_block (j := 1) hkX rfl
  have k2 : X.cell? ⟨V, 2, none⟩ = some (.int .i64 xb) := cell_block (j := 2) hkX rfl
  have k3 : X.cell? ⟨V, 3, none⟩ = some (.int .i64 xn) := cell_block (j := 3) hkX rfl
  have hrX := own_under hr hbX
  have HB := Lib.hid hbX
  by_cases c1 : kd = 1
  · subst c1
    have HC := Lib.hid (dopen xa X hrX hn)
    have e1 : doN l ⟨1, xa, xb, xn⟩ = 0 := rfl
    have e2 : doE l ⟨1, xa, xb, xn⟩ = openE l xa := rfl
    have e3 : doL l ⟨1, xa, xb, xn⟩ = openL l xa := rfl
    rw [e1, e2, e3]
    clear hbX hkX hrX hr hn hg e1 e2 e3
    go_enter Try.func10, Try.ntmps10
    go_wp2_with fail
    clear hX hV
    refine HC.out.mono ?_
    rintro e w1 ⟨a', n', c', rfl, H1⟩
    go_wp2_with fail
    go_ret3
    exact ⟨a', n', c', rfl, Lib.hid (H1.out.under HB.out)⟩
  have d1 : (kd == 1) = false := by simpa using c1
  by_cases c2 : kd = 2
  · subst c2
    have HC := Lib.hid (dgive xa xn X hrX hn hg)
    have e1 : doN l ⟨2, xa, xb, xn⟩ = 0 := rfl
    have e2 : doE l ⟨2, xa, xb, xn⟩ = giveE l xa xn := rfl
    have e3 : doL l ⟨2, xa, xb, xn⟩ = giveL l xa xn := rfl
    rw [e1, e2, e3]
    clear hbX hkX hrX hr hn hg e1 e2 e3 c1 d1
    go_enter Try.func10, Try.ntmps10
    go_wp2_with fail
    clear hX hV
    refine HC.out.mono ?_
    rintro e w1 ⟨a', n', c', rfl, H1⟩
    go_wp2_with fail
    go_ret3
    exact ⟨a', n', c', rfl, Lib.hid (H1.out.under HB.out)⟩
  have d2 : (kd == 2) = false := by simpa using c2
  by_cases c3 : kd = 3
  · subst c3
    have HC := Lib.hid (dtake xa xn X hrX hn hg)
    have e1 : doN l ⟨3, xa, xb, xn⟩ = 0 := rfl
    have e2 : doE l ⟨3, xa, xb, xn⟩ = takeE l xa xn := rfl
    have e3 : doL l ⟨3, xa, xb, xn⟩ = takeL l xa xn := rfl
    rw [e1, e2, e3]
    clear hbX hkX hrX hr hn hg e1 e2 e3 c1 d1 c2 d2
    go_enter Try.func10, Try.ntmps10
    go_wp2_with fail
    clear hX hV
    refine HC.out.mono ?_
    rintro e w1 ⟨a', n', c', rfl, H1⟩
    go_wp2_with fail
    go_ret3
    exact ⟨a', n', c', rfl, Lib.hid (H1.out.under HB.out)⟩
  have d3 : (kd == 3) = false := by simpa using c3
  by_cases c4 : kd = 4
  · subst c4
    have HC := Lib.hid (dmove xa xb xn X hrX hn hg)
    have e1 : doN l ⟨4, xa, xb, xn⟩ = 0 := rfl
    have e2 : doE l ⟨4, xa, xb, xn⟩ = moveE l xa xb xn := rfl
    have e3 : doL l ⟨4, xa, xb, xn⟩ = moveL l xa xb xn := rfl
    rw [e1, e2, e3]
    clear hbX hkX hrX hr hn hg e1 e2 e3 c1 d1 c2 d2 c3 d3
    go_enter Try.func10, Try.ntmps10
    go_wp2_with fail
    clear hX hV
    refine HC.out.mono ?_
    rintro e w1 ⟨a', n', c', rfl, H1⟩
    go_wp2_with fail
    go_ret3
    exact ⟨a', n', c', rfl, Lib.hid (H1.out.under HB.out)⟩
  have d4 : (kd == 4) = false := by simpa using c4
  obtain ⟨hl, _, _, _, hs⟩ := own_form hrX
  have HC := Lib.hid (dmoney (c := c) xa X hs hl (by omega))
  have e1 : doN l ⟨kd, xa, xb, xn⟩ = monV l xa := by unfold doN; rw [if_neg]; simp only; omega
  have e2 : doE l ⟨kd, xa, xb, xn⟩ = monE l xa := by unfold doE; simp only; rw [if_neg c1, if_neg c2, if_neg c3, if_neg c4]
  have e3 : doL l ⟨kd, xa, xb, xn⟩ = l := by unfold doL; simp only; rw [if_neg c1, if_neg c2, if_neg c3, if_neg c4]
  rw [e1, e2, e3]
  have HR := Lib.hid ((res_same hrX).under HB.out)
  clear hbX hkX hrX hr hn hg e1 e2 e3 c1 c2 c3 c4 hl hs
  go_enter Try.func10, Try.ntmps10
  go_wp2_with fail
  clear hX hV
  refine HC.out.mono ?_
  rintro e w1 ⟨rfl, rfl⟩
  go_wp2_with fail
  go_ret3
  exact ⟨a, n, c, rfl, HR⟩
theorem ld_cons (out : List Ac) (a : Ac) (l : List Ac) : ld out (a :: l) = if AcOk out a then ld (put out a) l else none := rfl
theorem load_bad {l : List Ac} (h : ld [] l = none) : loadE l = 1 ∧ loadL l = [] := by
  unfold loadE loadL
  rw [h]
  exact ⟨rfl, rfl⟩
theorem load_over {l out : List Ac} (h : ld [] l = some out) (h2 : mm < tot out) : loadE l = 5 ∧ loadL l = [] := by
  unfold loadE loadL
  rw [h]
  simp only
  rw [if_pos h2, if_pos h2]
  exact ⟨rfl, rfl⟩
theorem load_ok {l out : List Ac} (h : ld [] l = some out) (h2 : ¬ mm < tot out) : loadE l = 0 ∧ loadL l = out := by
  unfold loadE loadL
  rw [h]
  simp only
  rw [if_neg h2, if_neg h2]
  exact ⟨rfl, rfl⟩
/-- What is loaded so far. -/
structure Lds (w wr : World) (l : List Ac) (v : Value) (out : List Ac) (i : Nat) : Prop where
  res : Res w wr (.slice none 0 0) v out
  len : out.length = i
  rest : ld [] l = ld out (l.drop i)
  mon : ∀ a ∈ out, 0 ≤ a.mon ∧ a.mon ≤ mm
set_option maxRecDepth 100000 in
set_option maxHeartbeats 8000000 in
theorem dload (a : Option Addr) (n c : Nat) (l : List Ac) (w : World) (hs : Accs w a l) (hl : l.length = n) (hn : n ≤ 1000) :
    Calls Try.prog 9 #[.slice a n c] w fun e w' => ∃ a' n' c', e = .returned (.tuple #[.slice a' n' c', .int .i64 (loadE l)]) ∧ Hid (Res w w' (.slice none 0 0) (.slice a' n' c') (loadL l)) := by
  have HT := accs_at hs
  have HL := Lib.hid hl
  have HN := Lib.hid hn
  have hn1 : (n : Int) ≤ 1048576 := by omega
  clear hs hl hn
  have HBAD : Hid (∀ wr i t v out, Lds w wr l v out i → l[i]? = some t → ¬ AcOk out t → loadE l = 1 ∧ loadL l = [] ∧ Res w wr (.slice none 0 0) (.slice none 0 0) []) := Lib.hid (fun wr i t v out h ht hno => by
    obtain ⟨hh, e⟩ := List.getElem?_eq_some_iff.1 ht
    have h1 := h.rest
    rw [List.drop_eq_getElem_cons hh, e, ld_cons, if_neg hno] at h1
    obtain ⟨h2, h3⟩ := load_bad h1
    exact ⟨h2, h3, World.ownsRow_nil _ _ _ _, h.res.below, fun k hk => by cases hk⟩)
  go_enter Try.func9, Try.ntmps9
  go_wp2_with fail
  go_loopw [4, 5] (fun s t wr => ∃ (a1 : Option Addr) (n1 c1 i : Nat), s = .slice a1 n1 c1 ∧ t = .int .i64 i ∧ i ≤ n ∧ Hid (∃ out, Lds w wr l (.slice a1 n1 c1) out i)) (fun _ t _ => n - (RowKit.intOf t).toNat)
  case atStart => exact ⟨none, 0, 0, 0, rfl, rfl, by omega, Lib.hid ⟨[], ⟨World.ownsRow_nil _ _ _ _, Below.refl _ _, fun _ hk => .inl hk⟩, rfl, by rw [List.drop_zero], fun a ha => by cases ha⟩⟩
  case round =>
    obtain ⟨a1, n1, c1, i, rfl, rfl, hi, HI⟩ := hrel
    have hi0 : (0 : Int) ≤ (i : Int) := by omega
    obtain ⟨out, hI⟩ := HI.out
    clear HI
    by_cases hlt : i < n
    · have hlt2 : (i : Int) < (n : Int) := by omega
      obtain ⟨g, off, t, rfl, ht, k0, k1⟩ := HT.out wr i hI.res.below (by rw [HL.out]; exact hlt)
      have HNO : Hid (¬ AcOk out t → loadE l = 1 ∧ loadL l = [] ∧ Res w wr (.slice none 0 0) (.slice none 0 0) []) := Lib.hid (fun h => HBAD.out wr i t _ out hI ht.out h)
      obtain ⟨e1, _, _, _, hs1⟩ := own_form hI.res.own
      have hn4 : n1 ≤ 1000 := by have := HN.out; have := hI.len; omega
      have HF := Lib.hid (dfind (c := c1) t.own wr hs1 e1 (by omega))
      by_cases q1 : t.own < 0
      · have d1 : decide (t.own < 0) = true := decide_eq_true q1
        have HE := Lib.hid (HNO.out fun h => by have := h.1.1; omega)
        clear q1 hI hs1 e1 hn4 HF HNO
        go_wp2_with fail
        go_ret2
        exact ⟨none, 0, 0, by rw [HE.out.1]; rfl, Lib.hid (by rw [HE.out.2.1]; exact HE.out.2.2)⟩
      have d1 : decide (t.own < 0) = false := decide_eq_false q1
      by_cases q2 : 1099511627776 < t.own
      · have d2 : decide (1099511627776 < t.own) = true := decide_eq_true q2
        have HE := Lib.hid (HNO.out fun h => by have := h.1.2; unfold mt at this; omega)
        clear q1 q2 hI hs1 e1 hn4 HF HNO
        go_wp2_with fail
        go_ret2
        exact ⟨none, 0, 0, by rw [HE.out.1]; rfl, Lib.hid (by rw [HE.out.2.1]; exact HE.out.2.2)⟩
      have d2 : decide (1099511627776 < t.own) = false := decide_eq_false q2
      by_cases q3 : t.mon < 0
      · have d3 : decide (t.mon < 0) = true := decide_eq_true q3
        have HE := Lib.hid (HNO.out fun h => by have := h.2.1.1; omega)
        clear q1 q2 q3 hI hs1 e1 hn4 HF HNO
        go_wp2_with fail
        go_ret2
        exact ⟨none, 0, 0, by rw [HE.out.1]; rfl, Lib.hid (by rw [HE.out.2.1]; exact HE.out.2.2)⟩
      have d3 : decide (t.mon < 0) = false := decide_eq_false q3
      by_cases q4 : 1152921504606846976 < t.mon
      · have d4 : decide (1152921504606846976 < t.mon) = true := decide_eq_true q4
        have HE := Lib.hid (HNO.out fun h => by have := h.2.1.2; unfold mm at this; omega)
        clear q1 q2 q3 q4 hI hs1 e1 hn4 HF HNO
        go_wp2_with fail
        go_ret2
        exact ⟨none, 0, 0, by rw [HE.out.1]; rfl, Lib.hid (by rw [HE.out.2.1]; exact HE.out.2.2)⟩
      have d4 : decide (1152921504606846976 < t.mon) = false := decide_eq_false q4
      by_cases q5 : pos out t.own < out.length
      · rw [fnd_yes q5] at HF
        have HE := Lib.hid (HNO.out fun h => h.2.2 q5)
        obtain ⟨p, hp⟩ : ∃ p, pos out t.own = p := ⟨_, rfl⟩
        rw [hp] at HF
        have d5 : decide ((0 : Int) ≤ (p : Int)) = true := decide_eq_true (by omega)
        clear q1 q2 q3 q4 q5 hI hs1 e1 hn4 HNO hp
        go_wp2_with fail
        refine HF.out.mono ?_
        rintro e w1 ⟨rfl, rfl⟩
        go_wp2_with fail
        go_ret2
        exact ⟨none, 0, 0, by rw [HE.out.1]; rfl, Lib.hid (by rw [HE.out.2.1]; exact HE.out.2.2)⟩
      · rw [fnd_no q5] at HF
        have hok : AcOk out t := ⟨⟨by omega, by unfold mt; omega⟩, ⟨by omega, by unfold mm; omega⟩, q5⟩
        have HPU : Hid (Calls Try.prog 27 #[.slice a1 n1 c1, .agg #[.int .i64 t.own, .int .i64 t.mon]] wr fun e w' => ∃ a' n' c', e = .returned (.slice a' n' c') ∧ Hid (∃ out, Lds w w' l (.slice a' n' c') out (i + 1))) := Lib.hid (by
          refine (dput t wr hI.res.own (by omega)).mono ?_
          rintro e w' ⟨a', c', rfl, h⟩
          obtain ⟨hh, e2⟩ := List.getElem?_eq_some_iff.1 ht.out
          have h1 := hI.rest
          rw [List.drop_eq_getElem_cons hh, e2, ld_cons, if_pos hok] at h1
          refine ⟨a', n1 + 1, c', rfl, Lib.hid ⟨put out t, hI.res.then (res_new h.out.1 h.out.2), by rw [put_length, hI.len], h1, fun x hx => ?_⟩⟩
          rcases mem_put.1 hx with rfl | hx
          · exact hok.2.1
          · exact hI.mon x hx)
        clear q1 q2 q3 q4 q5 hI hs1 e1 hn4 HNO hok
        go_wp2_with fail
        refine HF.out.mono ?_
        rintro e w1 ⟨rfl, rfl⟩
        go_wp2_with fail
        refine HPU.out.mono ?_
        rintro e w2 ⟨a', n', c', rfl, H2⟩
        go_wp2_with fail
        go_roundw
        case rel => exact ⟨a', n', c', i + 1, rfl, by go_num, by omega, H2⟩
        case measure => simp [RowKit.intOf]; omega
    · obtain rfl : i = n := by omega
      have hld : ld [] l = some out := by
        have h1 := hI.rest
        rw [List.drop_eq_nil_of_le (by have := HL.out; omega)] at h1
        exact h1
      obtain ⟨e1, _, _, _, hs1⟩ := own_form hI.res.own
      have HT1 := accs_at hs1
      have HMO := Lib.hid hI.mon
      have HRE := Lib.hid hI.res
      have HLD := Lib.hid hld
      have HLE := Lib.hid e1
      have hn4 : (n1 : Int) ≤ 1048576 := by have := HN.out; have := hI.len; omega
      have HB5 : Hid (Res w wr (.slice none 0 0) (.slice none 0 0) []) := Lib.hid ⟨World.ownsRow_nil _ _ _ _, hI.res.below, fun k hk => by cases hk⟩
      clear hI hs1 e1 hld HBAD
      go_wp2_with fail
      go_loopw [6, 7] (fun s t wx => ∃ (z : Int) (j : Nat), s = .int .i64 z ∧ t = .int .i64 j ∧ j ≤ n1 ∧ wr = wx ∧ 0 ≤ z ∧ z ≤ 1152921504606846976 ∧ Hid (tot (out.take j) = z)) (fun _ t _ => n1 - (RowKit.intOf t).toNat)
      case atStart => exact ⟨0, 0, rfl, rfl, by omega, rfl, by omega, by omega, Lib.hid rfl⟩
      case round =>
        obtain ⟨z, j, rfl, rfl, hj, rfl, z0, z1, HZ⟩ := hrel
        have hj0 : (0 : Int) ≤ (j : Int) := by omega
        by_cases hlt : j < n1
        · have hlt2 : (j : Int) < (n1 : Int) := by omega
          obtain ⟨g, off, t, rfl, ht, k0, k1⟩ := HT1.out wr j (Below.refl _ _) (by rw [HLE.out]; exact hlt)
          obtain ⟨m0, m1⟩ := HMO.out t (List.mem_of_getElem? ht.out)
          have HZ2 : Hid (tot (out.take (j + 1)) = z + t.mon) := Lib.hid (by rw [tot_take_succ ht.out, HZ.out])
          unfold mm at m1
          by_cases q1 : 1152921504606846976 - z < t.mon
          · have d1 : decide (1152921504606846976 - z < t.mon) = true := decide_eq_true q1
            have HE := Lib.hid (load_over HLD.out (by
              have h1 := tot_take_le (fun a ha => (HMO.out a ha).1) (j + 1)
              rw [HZ2.out] at h1
              unfold mm
              omega))
            clear q1
            go_wp2_with fail
            go_ret2
            exact ⟨none, 0, 0, by rw [HE.out.1]; rfl, Lib.hid (by rw [HE.out.2]; exact HB5.out)⟩
          · have d1 : decide (1152921504606846976 - z < t.mon) = false := decide_eq_false q1
            have z2 : 0 ≤ z + t.mon := by omega
            have z3 : z + t.mon ≤ 1152921504606846976 := by omega
            clear q1
            go_wp2_with fail
            go_roundw
            case rel => exact ⟨z + t.mon, j + 1, by go_num, by go_num, by omega, by first | rfl | trivial, z2, z3, HZ2⟩
            case measure => simp [RowKit.intOf]; omega
        · obtain rfl : j = n1 := by omega
          have HE := Lib.hid (load_ok HLD.out (by
            have h1 := HZ.out
            rw [List.take_of_length_le (by rw [HLE.out]; exact Nat.le_refl _)] at h1
            rw [h1]
            unfold mm
            omega))
          go_wp2_with fail
          go_ret2
          exact ⟨a1, j, c1, by rw [HE.out.1]; rfl, Lib.hid (by rw [HE.out.2]; exact HRE.out)⟩
end Go.Proofs.Yteglahogimdnfaa.Purse
