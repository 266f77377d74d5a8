/- PursePlays, for any purse that keeps its contracts. -/
import Derived.Test.YteglahogimdnfaaPurI
namespace Go.Proofs.Yteglahogimdnfaa.Purse
open Go.RowKit Go.Lib

/-- Acts that lie somewhere. -/
def Acts (w : World) (a : Option Addr) (xs : List Act) : Prop := ∀ (i : Nat) (x : Act), xs[i]? = some x → ∃ g off, a = some ⟨g, off, none⟩ ∧ g < w.heap.size ∧ w.cell? ⟨g, off + i * 4, none⟩ = some (.int .i64 x.kind) ∧ w.cell? ⟨g, off + i * 4 + 1, none⟩ = some (.int .i64 x.a) ∧ w.cell? ⟨g, off + i * 4 + 2, none⟩ = some (.int .i64 x.b) ∧ w.cell? ⟨g, off + i * 4 + 3, none⟩ = some (.int .i64 x.n)
theorem Acts.under {w w' : World} {a : Option Addr} {xs : List Act} (h : Acts w a xs) (hb : Below w.heap.size w w') : Acts w' a xs := fun i x hi => by
  obtain ⟨g, off, e, hg, k0, k1, k2, k3⟩ := h i x hi
  exact ⟨g, off, e, Nat.lt_of_lt_of_le hg hb.size, ((bcell hb).1 g _ hg).trans k0, ((bcell hb).1 g _ hg).trans k1, ((bcell hb).1 g _ hg).trans k2, ((bcell hb).1 g _ hg).trans k3⟩
theorem acts_all {w : World} {a : Option Addr} {xs : List Act} (h : Acts w a xs) : Hid (∀ i, i < xs.length → ∃ g off x, a = some ⟨g, off, none⟩ ∧ Hid (xs[i]? = some x) ∧ Hid (∀ W, Below w.heap.size w W → W.cell? ⟨g, off + i * 4, none⟩ = some (.int .i64 x.kind) ∧ W.cell? ⟨g, off + i * 4 + 1, none⟩ = some (.int .i64 x.a) ∧ W.cell? ⟨g, off + i * 4 + 2, none⟩ = some (.int .i64 x.b) ∧ W.cell? ⟨g, off + i * 4 + 3, none⟩ = some (.int .i64 x.n))) := Lib.hid (fun i hi => by
  obtain ⟨g, off, e, hg, k0, k1, k2, k3⟩ := h i xs[i] (List.getElem?_eq_getElem hi)
  exact ⟨g, off, xs[i], e, Lib.hid (List.getElem?_eq_getElem hi), Lib.hid fun W hW => ⟨((bcell hW).1 g _ hg).trans k0, ((bcell hW).1 g _ hg).trans k1, ((bcell hW).1 g _ hg).trans k2, ((bcell hW).1 g _ hg).trans k3⟩⟩)
variable {I : Impl}
section
variable {w W : World} {Q : Nat} {l : List Ac} {rows : List (Value × List Ac)} {cl : List Cl}
theorem pl_same {l1 : List Ac} {a b : Option Addr} {n c m d : Nat} (h : PS I w W Q l ((.slice a n c, l1) :: rows) cl) (hm : (Value.slice b m d, l1) ∈ rows) (hl : l1.length ≤ 1000) :
    Calls Try.prog 12 #[.slice a n c, .slice b m d] W fun e w' => e = .returned (.bool true) ∧ Hid (PS I w w' Q l rows cl) := by
  refine (same_at (h.own (by simp)) (h.own (by simp [hm])) hl).mono ?_
  rintro e w' ⟨rfl, hb⟩
  exact ⟨rfl, Lib.hid (h.under hb.out).rest⟩
theorem pl_rtotal {l1 : List Ac} {a : Option Addr} {n c : Nat} (h : PS I w W Q l rows cl) (hm : (Value.slice a n c, l1) ∈ rows) (hg : Good l1) (hl : l1.length ≤ 1000) :
    Calls Try.prog 15 #[.slice a n c] W fun e w' => e = .returned (.int .i64 (tot l1)) ∧ W = w' := by
  obtain ⟨e1, _, _, _, s1⟩ := own_form (h.own hm)
  exact dtotal W s1 e1 (by omega) hg
theorem pl_do {lx : List Ac} {a : Option Addr} {n c : Nat} (x : Act) (h : PS I w W Q l ((.slice a n c, lx) :: rows) cl) (hg : Good lx) (hl : lx.length ≤ 1000) :
    Calls Try.prog 10 #[.slice a n c, actV x] W fun e w' => ∃ a' n' c', e = .returned (.tuple #[.slice a' n' c', .int .i64 (doN lx x), .int .i64 (doE lx x)]) ∧ Hid (PS I w w' Q l ((.slice a' n' c', doL lx x) :: rows) cl) := by
  have ho := h.own (v := .slice a n c) (lx := lx) (by simp)
  refine (ddo x W ho (by have := (own_form ho).1; omega) hg).mono ?_
  rintro e w' ⟨a', n', c', rfl, hR⟩
  exact ⟨a', n', c', rfl, Lib.hid (h.res hR.out)⟩
end
/-- Both loads. -/
theorem pl_load (I : Impl) (a : Option Addr) (n c : Nat) (l : List Ac) (w : World) (hs : Accs w a l) (hl : l.length = n) (hn : n ≤ 1000) (hi : InA l) :
    (loadE l = 0 → Calls Try.prog 8 #[.slice a n c] w fun e w' => ∃ Q, e = .returned (.tuple #[ptr Q, .int .i64 0]) ∧ Hid (PS I w w' Q (loadL l) [] [])) ∧
    (loadE l ≠ 0 → Calls Try.prog 8 #[.slice a n c] w fun e w' => e = .returned (.tuple #[.pointer none, .int .i64 (loadE l)]) ∧ Hid (Below w.heap.size w w')) := by
  constructor
  · intro h0
    refine (I.load a n c l w hs hl hn hi).mono ?_
    rintro e w' ⟨p, rfl, hb, _, h2⟩
    obtain ⟨Q, F, R, rfl, h3, h4⟩ := h2 h0
    exact ⟨Q, by rw [h0], Lib.hid ⟨F, R, h3, hb, h4, fun r hr => (by cases hr), fun c hc => (by cases hc)⟩⟩
  · intro h0
    refine (I.load a n c l w hs hl hn hi).mono ?_
    rintro e w' ⟨p, rfl, hb, h1, _⟩
    obtain rfl := h1 h0
    exact ⟨rfl, Lib.hid hb⟩
theorem pl_rload {I : Impl} {w W : World} {Q : Nat} {l1 : List Ac} {rows : List (Value × List Ac)} {cl : List Cl} (a : Option Addr) (n c : Nat) (l : List Ac) (h : PS I w W Q l1 rows cl) (hs : Accs w a l) (hl : l.length = n) (hn : n ≤ 1000) :
    Calls Try.prog 9 #[.slice a n c] W fun e w' => ∃ a' n' c', e = .returned (.tuple #[.slice a' n' c', .int .i64 (loadE l)]) ∧ Hid (PS I w w' Q l1 ((.slice a' n' c', loadL l) :: rows) cl) := by
  refine (dload a n c l W (hs.under h.below) hl hn).mono ?_
  rintro e w' ⟨a', n', c', rfl, hR⟩
  have h0 : PS I w W Q l1 ((.slice none 0 0, []) :: rows) cl := by
    obtain ⟨F, R, h⟩ := h
    refine ⟨F, R, h.pq, h.below, h.new, fun r hr => ?_, h.clone⟩
    rcases List.mem_cons.1 hr with rfl | hr
    · exact ⟨World.ownsRow_nil _ _ _ _, fun k hk => by cases hk⟩
    · exact h.row r hr
  exact ⟨a', n', c', rfl, Lib.hid (h0.res hR.out)⟩
set_option maxRecDepth 100000 in
set_option maxHeartbeats 8000000 in
theorem pursePlays_in (I : Impl) (a : Option Addr) (n c : Nat) (l : List Ac) (b : Option Addr) (m d : Nat) (xs : List Act) (w : World) (hl : l.length = n) (hs : Accs w a l) (hi : InA l) (hm : xs.length = m) (hx : Acts w b xs) (hix : ∀ x ∈ xs, InAct x) :
    Calls Try.prog 3 #[.slice a n c, .slice b m d] w fun e w' => e = .returned (.bool true) ∧ Below w.heap.size w w' := by
  have HAW := awake_at I w
  by_cases h8 : (8 : Int) < (n : Int)
  · have H0 := Lib.hid (HAW.out w (Below.refl _ _))
    have d1 : decide ((8 : Int) < (n : Int)) = true := decide_eq_true h8
    clear hl hs hi hm hx hix HAW
    go_enter Try.func3, Try.ntmps3
    go_wp2_with fail
    refine H0.out.mono ?_
    rintro e w1 ⟨rfl, B1⟩
    go_wp2_with fail
    go_ret
    exact ⟨rfl, B1.out⟩
  have d1 : decide ((8 : Int) < (n : Int)) = false := decide_eq_false h8
  by_cases h30 : (30 : Int) < (m : Int)
  · have H0 := Lib.hid (HAW.out w (Below.refl _ _))
    have d2 : decide ((30 : Int) < (m : Int)) = true := decide_eq_true h30
    clear hl hs hi hm hx hix HAW
    go_enter Try.func3, Try.ntmps3
    go_wp2_with fail
    refine H0.out.mono ?_
    rintro e w1 ⟨rfl, B1⟩
    go_wp2_with fail
    go_ret
    exact ⟨rfl, B1.out⟩
  have d2 : decide ((30 : Int) < (m : Int)) = false := decide_eq_false h30
  have hn : n ≤ 8 := by omega
  have hm3 : m ≤ 30 := by omega
  obtain ⟨hyes, hno⟩ := pl_load I a n c l w hs hl (by omega) hi
  by_cases h0 : loadE l = 0
  · have HLD := Lib.hid (hyes h0)
    have HRL : Hid (∀ W Q, PS I w W Q (loadL l) [] [] → Calls Try.prog 9 #[.slice a n c] W fun e w' => ∃ a' n' c', e = .returned (.tuple #[.slice a' n' c', .int .i64 0]) ∧ Hid (PS I w w' Q (loadL l) [(.slice a' n' c', loadL l)] [])) := Lib.hid (fun W Q h => by
      have := pl_rload a n c l h hs hl (by omega)
      rw [h0] at this
      exact this)
    obtain ⟨hg0, hl0⟩ := good_load h0
    have HG := Lib.hid hg0
    have HLE : Hid ((loadL l).length ≤ 8) := Lib.hid (by omega)
    have HX := acts_all hx
    have HM := Lib.hid hm
    have HM3 := Lib.hid hm3
    have HIX := Lib.hid hix
    have hm1 : (m : Int) ≤ 1048576 := by omega
    clear hl hs hi hm hx hix hyes hno h0 hg0 hl0 h8 h30 hn hm3
    go_enter Try.func3, Try.ntmps3
    go_wp2_with fail
    refine HLD.out.mono ?_
    rintro e w1 ⟨Q, rfl, P1⟩
    go_wp2_with fail
    refine (HRL.out w1 Q P1.out).mono ?_
    rintro e w2 ⟨a0, n0, c0, rfl, P2⟩
    go_wp2_with fail
    go_loopw [7, 9] (fun s t wr => ∃ (a1 : Option Addr) (n1 c1 i : Nat), s = .slice a1 n1 c1 ∧ t = .int .i64 i ∧ i ≤ m ∧ Hid (∃ lx, PS I w wr Q lx [(.slice a1 n1 c1, lx)] [] ∧ Good lx ∧ lx.length ≤ 8 + i)) (fun _ t _ => m - (RowKit.intOf t).toNat)
    case atStart => exact ⟨a0, n0, c0, 0, rfl, rfl, by omega, Lib.hid ⟨_, P2.out, HG.out, by have := HLE.out; omega⟩⟩
    case round =>
      clear P1 P2 HLD HRL HG HLE
      obtain ⟨a1, n1, c1, i, rfl, rfl, hi, HI⟩ := hrel
      have hi0 : (0 : Int) ≤ (i : Int) := by omega
      obtain ⟨lx, hP, hg, hll⟩ := HI.out
      have h1000 : lx.length ≤ 1000 := by have := HM3.out; omega
      clear HI
      by_cases hlt : i < m
      · have hlt2 : (i : Int) < (m : Int) := by omega
        have dlt : decide ((i : Int) < (m : Int)) = true := decide_eq_true hlt2
        obtain ⟨g, off, x, rfl, hxi, HC⟩ := HX.out i (by rw [HM.out]; exact hlt)
        obtain ⟨k0, k1, k2, k3⟩ := HC.out wr hP.below
        have hix := HIX.out x (List.mem_of_getElem? hxi.out)
        have hgd := good_do hg x
        have h1001 : (doL lx x).length ≤ 1000 := by have := HM3.out; omega
        have HD := Lib.hid (pl_do x hP hg h1000)
        obtain ⟨q1, hq1⟩ : ∃ q, doN lx x = q := ⟨_, rfl⟩
        obtain ⟨q2, hq2⟩ : ∃ q, doE lx x = q := ⟨_, rfl⟩
        have HP : Hid (∀ W s, PS I w W Q lx [(s, doL lx x)] [] → Calls Try.prog 11 #[ptr Q, actV x] W fun e w' => e = .returned (.tuple #[.int .i64 q1, .int .i64 q2]) ∧ Hid (PS I w w' Q (doL lx x) [(s, doL lx x)] [])) := Lib.hid (fun W s h => by
          rw [← hq1, ← hq2]
          exact pdo x h hg h1000 hix)
        rw [hq1, hq2] at HD
        obtain ⟨ly, hly⟩ : ∃ ly, doL lx x = ly := ⟨_, rfl⟩
        rw [hly] at HD HP hgd h1001
        obtain ⟨z, hz⟩ : ∃ z, tot ly = z := ⟨_, rfl⟩
        have HLI : Hid (∀ W rows, PS I w W Q ly rows [] → Calls Try.prog 13 #[ptr Q] W fun e w' => ∃ a n c, e = .returned (.slice a n c) ∧ Hid (PS I w w' Q ly ((.slice a n c, ly) :: rows) [])) := Lib.hid (fun W rows h => (ps_list h hgd.1 h1001).mono fun _ _ ⟨a, n, c, e, h2⟩ => ⟨a, n, c, e, Lib.hid h2.out.1⟩)
        have HSA : Hid (∀ W a n c b m d, PS I w W Q ly [(.slice a n c, ly), (.slice b m d, ly)] [] → Calls Try.prog 12 #[.slice a n c, .slice b m d] W fun e w' => e = .returned (.bool true) ∧ Hid (PS I w w' Q ly [(.slice b m d, ly)] [])) := Lib.hid (fun W a n c b m d h => pl_same h (by simp) h1001)
        have HTO : Hid (∀ W rows, PS I w W Q ly rows [] → Calls Try.prog 14 #[ptr Q] W fun e w' => e = .returned (.int .i64 z) ∧ Hid (PS I w w' Q ly rows [])) := Lib.hid (fun W rows h => by rw [← hz]; exact ps_total h hgd.1 h1001)
        have HTR : Hid (∀ W a n c, PS I w W Q ly [(.slice a n c, ly)] [] → Calls Try.prog 15 #[.slice a n c] W fun e w' => e = .returned (.int .i64 z) ∧ W = w') := Lib.hid (fun W a n c h => by rw [← hz]; exact pl_rtotal h (by simp) hgd.1 h1001)
        have HGL : Hid (Good ly ∧ ly.length ≤ 8 + (i + 1)) := Lib.hid ⟨hgd.1, by have := hgd.2; omega⟩
        have e1 : (q1 == q1) = true := by simp
        have e2 : (q2 == q2) = true := by simp
        have e3 : (z == z) = true := by simp
        clear hP hg hll h1000 hix hgd h1001 hq1 hq2 hly hz
        go_wp2_with fail
        refine HD.out.mono ?_
        rintro e w3 ⟨a3, n3, c3, rfl, P3⟩
        clear k0 k1 k2 k3
        obtain ⟨k0, k1, k2, k3⟩ := HC.out w3 P3.out.below
        go_wp2_with fail
        refine (HP.out w3 _ P3.out).mono ?_
        rintro e w4 ⟨rfl, P4⟩
        clear k0 k1 k2 k3
        go_wp2_with fail
        refine (HLI.out w4 _ P4.out).mono ?_
        rintro e w5 ⟨a5, n5, c5, rfl, P5⟩
        go_wp2_with fail
        refine (HSA.out w5 _ _ _ _ _ _ P5.out).mono ?_
        rintro e w6 ⟨rfl, P6⟩
        go_wp2_with fail
        refine (HTO.out w6 _ P6.out).mono ?_
        rintro e w7 ⟨rfl, P7⟩
        go_wp2_with fail
        refine (HTR.out w7 _ _ _ P7.out).mono ?_
        rintro e w8 ⟨rfl, rfl⟩
        go_wp2_with fail
        go_roundw
        case rel => exact ⟨a3, n3, c3, i + 1, rfl, by go_num, by omega, Lib.hid ⟨ly, P7.out, HGL.out.1, HGL.out.2⟩⟩
        case measure => simp [RowKit.intOf]; omega
      · obtain rfl : i = m := by omega
        have dlt : decide ((i : Int) < (i : Int)) = false := by simp
        have HLI := Lib.hid (ps_list hP hg h1000)
        have HSA : Hid (∀ W a n c, PS I w W Q lx [(.slice a n c, lx), (.slice a1 n1 c1, lx)] [] → Calls Try.prog 12 #[.slice a n c, .slice a1 n1 c1] W fun e w' => e = .returned (.bool true) ∧ Hid (PS I w w' Q lx [(.slice a1 n1 c1, lx)] [])) := Lib.hid (fun W a n c h => pl_same h (by simp) h1000)
        clear hP hg hll h1000
        go_wp2_with fail
        refine HLI.out.mono ?_
        rintro e w3 ⟨a3, n3, c3, rfl, P3⟩
        go_wp2_with fail
        refine (HSA.out w3 _ _ _ P3.out.1).mono ?_
        rintro e w4 ⟨rfl, P4⟩
        go_wp2_with fail
        refine (HAW.out w4 P4.out.below).mono ?_
        rintro e w5 ⟨rfl, B5⟩
        go_wp2_with fail
        go_ret
        exact ⟨rfl, B5.out⟩
  · have HLD := Lib.hid (hno h0)
    have HRL : Hid (∀ W, Below w.heap.size w W → Calls Try.prog 9 #[.slice a n c] W fun e w' => ∃ a' n' c', e = .returned (.tuple #[.slice a' n' c', .int .i64 (loadE l)]) ∧ Hid (Below w.heap.size w w')) := Lib.hid (fun W hW => (dload a n c l W (hs.under hW) hl (by omega)).mono fun _ _ ⟨a', n', c', e, h⟩ => ⟨a', n', c', e, Lib.hid (below_then hW h.out.below)⟩)
    obtain ⟨er, her⟩ : ∃ er, loadE l = er := ⟨_, rfl⟩
    rw [her] at HLD HRL h0
    have hne : (er == 0) = false := by simpa using h0
    have hnb : (er != 0) = true := by simpa using h0
    have hnz : ¬ er = 0 := h0
    have hee : (er == er) = true := by simp
    have hm1 : (m : Int) ≤ 1048576 := by omega
    clear hl hs hi hm hx hix hyes hno h0 h8 h30 hn hm3 her
    go_enter Try.func3, Try.ntmps3
    go_wp2_with fail
    refine HLD.out.mono ?_
    rintro e w1 ⟨rfl, B1⟩
    go_wp2_with fail
    refine (HRL.out w1 B1.out).mono ?_
    rintro e w2 ⟨a0, n0, c0, rfl, B2⟩
    go_wp2_with fail
    go_loopw [9] (fun t wr => t = .int .i64 0 ∧ w2 = wr) (fun _ _ => 0)
    case atStart => exact ⟨rfl, rfl⟩
    case round =>
      obtain ⟨rfl, rfl⟩ := hrel
      have HA2 := Lib.hid (HAW.out w2 B2.out)
      by_cases h0 : (0 : Int) < (m : Int)
      · have dlt : decide ((0 : Int) < (m : Int)) = true := decide_eq_true h0
        go_wp2_with fail
        refine HA2.out.mono ?_
        rintro e w5 ⟨rfl, B5⟩
        go_wp2_with fail
        go_ret
        exact ⟨rfl, B5.out⟩
      · have dlt : decide ((0 : Int) < (m : Int)) = false := decide_eq_false h0
        go_wp2_with fail
        refine HA2.out.mono ?_
        rintro e w5 ⟨rfl, B5⟩
        go_wp2_with fail
        go_ret
        exact ⟨rfl, B5.out⟩
end Go.Proofs.Yteglahogimdnfaa.Purse
