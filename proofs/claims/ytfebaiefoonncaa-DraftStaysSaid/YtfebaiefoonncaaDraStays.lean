/- DraftStays: what is refused changes nothing. -/
import Derived.Test.YtfebaiefoonncaaDraAwake
namespace Go.Proofs.Ytfebaiefoonncaa.Draft
open Go.RowKit Go.Lib IRows

/-- Acts that lie somewhere. -/
def Acts (w : World) (b : Option Addr) (xs : List Act) : Prop := ∀ (i : Nat) (x : Act), xs[i]? = some x → ∃ g off, b = some ⟨g, off, none⟩ ∧ g < w.heap.size ∧ w.cell? ⟨g, off + i * 13, none⟩ = some (.int .i64 x.kind) ∧ w.cell? ⟨g, off + i * 13 + 1, none⟩ = some (.int .i64 x.i) ∧ w.cell? ⟨g, off + i * 13 + 2, none⟩ = some (.int .i64 x.a) ∧ w.cell? ⟨g, off + i * 13 + 3, none⟩ = some (.int .i64 x.b) ∧ w.cell? ⟨g, off + i * 13 + 4, none⟩ = some (.int .i64 x.d.id) ∧ w.cell? ⟨g, off + i * 13 + 5, none⟩ = some (.int .i64 x.d.owner) ∧ w.cell? ⟨g, off + i * 13 + 6, none⟩ = some (.int .i64 x.d.div) ∧ w.cell? ⟨g, off + i * 13 + 7, none⟩ = some (.int .i64 x.d.place) ∧ w.cell? ⟨g, off + i * 13 + 8, none⟩ = some (.int .i64 x.d.blue) ∧ w.cell? ⟨g, off + i * 13 + 9, none⟩ = some (.int .i64 x.d.me) ∧ w.cell? ⟨g, off + i * 13 + 10, none⟩ = some (.int .i64 x.d.te) ∧ w.cell? ⟨g, off + i * 13 + 11, none⟩ = some (.int .i64 x.d.runs) ∧ w.cell? ⟨g, off + i * 13 + 12, none⟩ = some (.int .i64 x.d.busy)
theorem acts_all {w : World} {b : Option Addr} {xs : List Act} (h : Acts w b xs) : Hid (∀ i, i < xs.length → ∃ g off x, b = some ⟨g, off, none⟩ ∧ Hid (x ∈ xs) ∧ Hid (∀ W, Below w.heap.size w W → W.cell? ⟨g, off + i * 13, none⟩ = some (.int .i64 x.kind) ∧ W.cell? ⟨g, off + i * 13 + 1, none⟩ = some (.int .i64 x.i) ∧ W.cell? ⟨g, off + i * 13 + 2, none⟩ = some (.int .i64 x.a) ∧ W.cell? ⟨g, off + i * 13 + 3, none⟩ = some (.int .i64 x.b) ∧ W.cell? ⟨g, off + i * 13 + 4, none⟩ = some (.int .i64 x.d.id) ∧ W.cell? ⟨g, off + i * 13 + 5, none⟩ = some (.int .i64 x.d.owner) ∧ W.cell? ⟨g, off + i * 13 + 6, none⟩ = some (.int .i64 x.d.div) ∧ W.cell? ⟨g, off + i * 13 + 7, none⟩ = some (.int .i64 x.d.place) ∧ W.cell? ⟨g, off + i * 13 + 8, none⟩ = some (.int .i64 x.d.blue) ∧ W.cell? ⟨g, off + i * 13 + 9, none⟩ = some (.int .i64 x.d.me) ∧ W.cell? ⟨g, off + i * 13 + 10, none⟩ = some (.int .i64 x.d.te) ∧ W.cell? ⟨g, off + i * 13 + 11, none⟩ = some (.int .i64 x.d.runs) ∧ W.cell? ⟨g, off + i * 13 + 12, none⟩ = some (.int .i64 x.d.busy))) := Lib.hid fun i hi => by
  obtain ⟨g, off, e, hg, k0, k1, k2, k3, k4, k5, k6, k7, k8, k9, k10, k11, k12⟩ := h i xs[i] (List.getElem?_eq_getElem hi)
  exact ⟨g, off, _, e, Lib.hid (List.getElem_mem hi), Lib.hid fun W hW => ⟨((bcell hW).1 g _ hg).trans k0, ((bcell hW).1 g _ hg).trans k1, ((bcell hW).1 g _ hg).trans k2, ((bcell hW).1 g _ hg).trans k3, ((bcell hW).1 g _ hg).trans k4, ((bcell hW).1 g _ hg).trans k5, ((bcell hW).1 g _ hg).trans k6, ((bcell hW).1 g _ hg).trans k7, ((bcell hW).1 g _ hg).trans k8, ((bcell hW).1 g _ hg).trans k9, ((bcell hW).1 g _ hg).trans k10, ((bcell hW).1 g _ hg).trans k11, ((bcell hW).1 g _ hg).trans k12⟩⟩
set_option maxRecDepth 100000 in
set_option maxHeartbeats 16000000 in
theorem draftStays_in (a : Option Addr) (n c : Nat) (l : List Dr) (next : Int) (b : Option Addr) (m d : Nat) (xs : List Act) (w : World) (hl : l.length = n) (hs : Els w a l) (hm : xs.length = m) (hx : Acts w b xs) (hix : ∀ x ∈ xs, InAct x) :
    Calls Try.prog 3 #[.slice a n c, .int .i64 next, .slice b m d] w fun e w' => e = .returned (.bool true) ∧ Below w.heap.size w w' := by
  have HAW := awake_at w
  by_cases h12 : (12 : Int) < (n : Int)
  · have H0 := Lib.hid (HAW.out w (Below.refl _ _))
    have d1 : decide ((12 : Int) < (n : Int)) = true := decide_eq_true h12
    clear hl hs hm hx hix HAW
    go_enter Try.func3, Try.ntmps3
    go_wp2_with fail
    refine H0.out.mono ?_
    rintro e w1 ⟨rfl, B1⟩
    go_wp2_with fail
    go_ret
    exact ⟨rfl, B1.out⟩
  have d1 : decide ((12 : Int) < (n : Int)) = false := decide_eq_false h12
  by_cases h25 : (25 : Int) < (m : Int)
  · have H0 := Lib.hid (HAW.out w (Below.refl _ _))
    have d2 : decide ((25 : Int) < (m : Int)) = true := decide_eq_true h25
    clear hl hs hm hx hix HAW
    go_enter Try.func3, Try.ntmps3
    go_wp2_with fail
    refine H0.out.mono ?_
    rintro e w1 ⟨rfl, B1⟩
    go_wp2_with fail
    go_ret
    exact ⟨rfl, B1.out⟩
  have d2 : decide ((25 : Int) < (m : Int)) = false := decide_eq_false h25
  have hn : n ≤ 12 := by omega
  have hm25 : m ≤ 25 := by omega
  have hm1 : (m : Int) ≤ 25 := by omega
  have HLD := Lib.hid (load_im a n c l next w hs hl (by omega))
  obtain ⟨er, her⟩ : ∃ er, loadE l next = er := ⟨_, rfl⟩
  by_cases h0 : er = 0
  · subst h0
    obtain ⟨hg0, hl0⟩ := good_load her
    obtain ⟨L, hL⟩ : ∃ L, loadL l next = L := ⟨_, rfl⟩
    obtain ⟨zL, hzL⟩ : ∃ zL, next - 1 = zL := ⟨_, rfl⟩
    rw [hL, hzL] at hg0
    rw [hL] at hl0
    have HL2 : Hid (Calls Try.prog 7 #[.slice a n c, .int .i64 next] w fun e w' => ∃ Q, e = .returned (.tuple #[ptr Q, .int .i64 0]) ∧ Hid (DS w w' Q L zL [] [] [])) := Lib.hid (by
      refine HLD.out.mono ?_
      rintro e w' ⟨p, rfl, H⟩
      obtain ⟨g1, _, g3⟩ := H.out
      obtain ⟨Q, G, rfl, g4, g5, _⟩ := g3 her
      rw [hL, hzL] at g4
      exact ⟨Q, by rw [her], Lib.hid ⟨G, g4, hg0, g1, g5, fun r hr => (by cases hr), fun c hc => (by cases hc), fun b hb => (by cases hb)⟩⟩)
    have HLL : Hid (L.length ≤ 12) := Lib.hid (by omega)
    have HNX : Hid (zL + 1 = next) := Lib.hid (by omega)
    have HX := acts_all hx
    have HM := Lib.hid hm
    have HIX := Lib.hid hix
    have HCL : Hid (∀ W Q, DS w W Q L zL [] [] [] → Calls Try.prog 8 #[ptr Q] W fun e w' => ∃ Q2, e = .returned (ptr Q2) ∧ Hid (DS w w' Q L zL [] [⟨Q2, L, zL⟩] [])) := Lib.hid (fun W Q h => ds_clone h)
    have HLI : Hid (∀ W Q lx zx rows cl, DS w W Q lx zx rows cl [] → Calls Try.prog 9 #[ptr Q] W fun e w' => ∃ a n c, e = .returned (.slice a n c) ∧ Hid (DS w w' Q lx zx ((.slice a n c, lx) :: rows) cl [] ∧ lx.length = n)) := Lib.hid (fun W Q lx zx rows cl h => ds_list h)
    clear hl hs hm hx hix her hg0 hl0 hL hzL h12 h25 HLD hn
    go_enter Try.func3, Try.ntmps3
    go_wp2_with fail
    refine HL2.out.mono ?_
    rintro e w1 ⟨Q, rfl, P1⟩
    go_wp2_with fail
    refine (HCL.out w1 Q P1.out).mono ?_
    rintro e w2 ⟨Q2, rfl, P2⟩
    go_wp2_with fail
    refine (HLI.out w2 Q L zL _ _ P2.out).mono ?_
    rintro e w3 ⟨a2, n2, c2, rfl, P3⟩
    have HN2 : Hid (L.length = n2) := Lib.hid P3.out.2
    have P4 : Hid (DS w w3 Q L zL [(.slice a2 n2 c2, L)] [⟨Q2, L, zL⟩] []) := Lib.hid P3.out.1
    clear P1 P2 P3 HCL HL2 d1 d2
    go_wp2_with fail
    go_loopw [11] (fun t wr => ∃ i : Nat, t = .int .i64 i ∧ i ≤ m ∧ Hid (∃ lx zx, DS w wr Q lx zx [(.slice a2 n2 c2, L)] [⟨Q2, L, zL⟩] [])) (fun t _ => m - (RowKit.intOf t).toNat)
    case atStart => exact ⟨0, rfl, by omega, Lib.hid ⟨L, zL, P4.out⟩⟩
    case round =>
      clear P4
      obtain ⟨i, rfl, hi, HI⟩ := hrel
      have hi0 : (0 : Int) ≤ (i : Int) := by omega
      obtain ⟨lx, zx, hP⟩ := HI.out
      clear HI
      by_cases hlt : i < m
      · have hlt2 : (i : Int) < (m : Int) := by omega
        have hi25 : (i : Int) ≤ 25 := by omega
        have HLA := Lib.hid (HLI.out wr Q lx zx _ _ hP)
        have hgx := hP.good
        obtain ⟨g, off, y, rfl, hyi, HC⟩ := HX.out i (by rw [HM.out]; exact hlt)
        have hiy := HIX.out y hyi.out
        have hzx : 0 ≤ zx ∧ zx < 1099511627776 := hgx.last
        obtain ⟨yn, hyn⟩ : ∃ yn, zx + 1 = yn := ⟨_, rfl⟩
        have HYN : Hid (zx + 1 = yn) := Lib.hid hyn
        have HNA : Hid (∀ W rows, DS w W Q lx zx rows [⟨Q2, L, zL⟩] [] → Calls Try.prog 10 #[ptr Q] W fun e w' => e = .returned (.int .i64 yn) ∧ W = w') := Lib.hid (fun W rows h => by rw [← hyn]; exact ds_next h)
        obtain ⟨er, her⟩ : ∃ er, doE lx zx y = er := ⟨_, rfl⟩
        obtain ⟨ly, hly⟩ : ∃ ly, doL lx zx y = ly := ⟨_, rfl⟩
        obtain ⟨zy, hzy⟩ : ∃ zy, doZ lx zx y = zy := ⟨_, rfl⟩
        have HDO : Hid (∀ W rows, DS w W Q lx zx rows [⟨Q2, L, zL⟩] [] → Calls Try.prog 11 #[ptr Q, actV y] W fun e w' => ∃ a n c, e = .returned (.tuple #[.slice a n c, .int .i64 er]) ∧ Hid (DS w w' Q ly zy rows [⟨Q2, L, zL⟩] [] ∧ n ≤ 10 ∧ (er = 0 → y.kind = 1 ∨ y.kind = 5 → Row w' a n zx))) := Lib.hid (fun W rows h => by
          have := ds_do y h hiy
          rw [her, hly, hzy] at this
          exact this)
        have hgd := good_do hgx y
        rw [hly, hzy] at hgd
        have hzy2 : zy < 1099511627776 := hgd.1.last.2
        obtain ⟨ym, hym⟩ : ∃ ym, zy + 1 = ym := ⟨_, rfl⟩
        have HNB : Hid (∀ W rows, DS w W Q ly zy rows [⟨Q2, L, zL⟩] [] → Calls Try.prog 10 #[ptr Q] W fun e w' => e = .returned (.int .i64 ym) ∧ W = w') := Lib.hid (fun W rows h => by rw [← hym]; exact ds_next h)
        have dlt : decide (ym < yn) = false := decide_eq_false (by have := hgd.2; omega)
        have nlt : ¬ ym < yn := by have := hgd.2; omega
        have hre := do_refused (l := lx) (z := zx) (x := y)
        rw [her, hly, hzy] at hre
        have HRE : Hid (er ≠ 0 → ly = lx ∧ zy = zx) := Lib.hid hre
        by_cases he : er = 0
        · subst he
          by_cases hk1 : y.kind = 1
          · have e1 : (y.kind == 1) = true := by simp [hk1]
            have HKD : Hid (y.kind = 1 ∨ y.kind = 5) := Lib.hid (.inl hk1)
            clear hP hgx hiy hzx hyn her hly hzy hgd hzy2 hym hre hk1
            go_wp2_with fail
            refine HLA.out.mono ?_
            rintro e w5 ⟨a5, n5, c5, rfl, P5⟩
            go_wp2_with fail
            refine (HNA.out w5 _ P5.out.1).mono ?_
            rintro e w' ⟨rfl, rfl⟩
            obtain ⟨k0, k1, k2, k3, k4, k5, k6, k7, k8, k9, k10, k11, k12⟩ := HC.out w5 P5.out.1.below
            go_wp2_with fail
            refine (HDO.out w5 _ P5.out.1).mono ?_
            rintro e w7 ⟨sa, nn, cc, rfl, P7⟩
            clear k0 k1 k2 k3 k4 k5 k6 k7 k8 k9 k10 k11 k12
            have k0 := (HC.out w7 P7.out.1.below).1
            go_wp2_with fail
            refine (HNB.out w7 _ P7.out.1).mono ?_
            rintro e w' ⟨rfl, rfl⟩
            have P8 : DS w w7 Q ly zy [(.slice a2 n2 c2, L)] [⟨Q2, L, zL⟩] [] := P7.out.1.rest
            have R8 : Row w7 sa nn zx := P7.out.2.2 (by first | trivial | rfl) HKD.out
            have hnn : (nn : Int) ≤ 10 := by have := P7.out.2.1; omega
            go_wp2_with fail
            go_loopw [16] (fun t wr => ∃ k : Nat, t = .int .i64 (k : Int) ∧ k ≤ nn ∧ Hid (DS w wr Q ly zy [(.slice a2 n2 c2, L)] [⟨Q2, L, zL⟩] [] ∧ Row wr sa nn zx)) (fun t _ => nn - (RowKit.intOf t).toNat)
            case atStart => exact ⟨0, rfl, by omega, Lib.hid ⟨P8, R8⟩⟩
            case round =>
              clear P8 R8
              obtain ⟨k, rfl, hk, HI⟩ := hrel
              have hk0 : (0 : Int) ≤ (k : Int) := by omega
              by_cases hkt : k < nn
              · have hkt2 : (k : Int) < (nn : Int) := by omega
                obtain ⟨g3, off3, rfl, _, q3⟩ := HI.out.2 k hkt
                obtain ⟨v, hv⟩ : ∃ v, zx + (k : Int) + 1 = v := ⟨_, rfl⟩
                rw [hv] at q3
                have wv : IntKind.i64.wrap (v - yn) = (k : Int) := by
                  have h1 := HYN.out
                  have h2 : v - yn = (k : Int) := by omega
                  rw [h2]
                  exact IntWalk.i64_in _ (by omega)
                have kk1 : ((k : Int) != (k : Int)) = false := by simp
                have kk2 : ((k : Int) == (k : Int)) = true := by simp
                clear hv
                go_wp2_with fail
                go_roundw
                case rel => exact ⟨k + 1, by go_num, by omega, HI⟩
                case measure => simp [RowKit.intOf]; omega
              · obtain rfl : k = nn := by omega
                go_wp2_with fail
                go_roundw
                case rel => exact ⟨i + 1, by go_num, by omega, Lib.hid ⟨ly, zy, HI.out.1⟩⟩
                case measure => simp [RowKit.intOf]; omega
          · by_cases hk5 : y.kind = 5
            · have e1 : (y.kind == 1) = false := by simpa using hk1
              have e5 : (y.kind == 5) = true := by simp [hk5]
              have HKD : Hid (y.kind = 1 ∨ y.kind = 5) := Lib.hid (.inr hk5)
              clear hP hgx hiy hzx hyn her hly hzy hgd hzy2 hym hre hk1 hk5
              go_wp2_with fail
              refine HLA.out.mono ?_
              rintro e w5 ⟨a5, n5, c5, rfl, P5⟩
              go_wp2_with fail
              refine (HNA.out w5 _ P5.out.1).mono ?_
              rintro e w' ⟨rfl, rfl⟩
              obtain ⟨k0, k1, k2, k3, k4, k5, k6, k7, k8, k9, k10, k11, k12⟩ := HC.out w5 P5.out.1.below
              go_wp2_with fail
              refine (HDO.out w5 _ P5.out.1).mono ?_
              rintro e w7 ⟨sa, nn, cc, rfl, P7⟩
              clear k0 k1 k2 k3 k4 k5 k6 k7 k8 k9 k10 k11 k12
              have k0 := (HC.out w7 P7.out.1.below).1
              go_wp2_with fail
              refine (HNB.out w7 _ P7.out.1).mono ?_
              rintro e w' ⟨rfl, rfl⟩
              have P8 : DS w w7 Q ly zy [(.slice a2 n2 c2, L)] [⟨Q2, L, zL⟩] [] := P7.out.1.rest
              have R8 : Row w7 sa nn zx := P7.out.2.2 (by first | trivial | rfl) HKD.out
              have hnn : (nn : Int) ≤ 10 := by have := P7.out.2.1; omega
              go_wp2_with fail
              go_loopw [16] (fun t wr => ∃ k : Nat, t = .int .i64 (k : Int) ∧ k ≤ nn ∧ Hid (DS w wr Q ly zy [(.slice a2 n2 c2, L)] [⟨Q2, L, zL⟩] [] ∧ Row wr sa nn zx)) (fun t _ => nn - (RowKit.intOf t).toNat)
              case atStart => exact ⟨0, rfl, by omega, Lib.hid ⟨P8, R8⟩⟩
              case round =>
                clear P8 R8
                obtain ⟨k, rfl, hk, HI⟩ := hrel
                have hk0 : (0 : Int) ≤ (k : Int) := by omega
                by_cases hkt : k < nn
                · have hkt2 : (k : Int) < (nn : Int) := by omega
                  obtain ⟨g3, off3, rfl, _, q3⟩ := HI.out.2 k hkt
                  obtain ⟨v, hv⟩ : ∃ v, zx + (k : Int) + 1 = v := ⟨_, rfl⟩
                  rw [hv] at q3
                  have wv : IntKind.i64.wrap (v - yn) = (k : Int) := by
                    have h1 := HYN.out
                    have h2 : v - yn = (k : Int) := by omega
                    rw [h2]
                    exact IntWalk.i64_in _ (by omega)
                  have kk1 : ((k : Int) != (k : Int)) = false := by simp
                  have kk2 : ((k : Int) == (k : Int)) = true := by simp
                  clear hv
                  go_wp2_with fail
                  go_roundw
                  case rel => exact ⟨k + 1, by go_num, by omega, HI⟩
                  case measure => simp [RowKit.intOf]; omega
                · obtain rfl : k = nn := by omega
                  go_wp2_with fail
                  go_roundw
                  case rel => exact ⟨i + 1, by go_num, by omega, Lib.hid ⟨ly, zy, HI.out.1⟩⟩
                  case measure => simp [RowKit.intOf]; omega
            · have e1 : (y.kind == 1) = false := by simpa using hk1
              have e5 : (y.kind == 5) = false := by simpa using hk5
              clear hP hgx hiy hzx hyn her hly hzy hgd hzy2 hym hre hk1 hk5
              go_wp2_with fail
              refine HLA.out.mono ?_
              rintro e w5 ⟨a5, n5, c5, rfl, P5⟩
              go_wp2_with fail
              refine (HNA.out w5 _ P5.out.1).mono ?_
              rintro e w' ⟨rfl, rfl⟩
              obtain ⟨k0, k1, k2, k3, k4, k5, k6, k7, k8, k9, k10, k11, k12⟩ := HC.out w5 P5.out.1.below
              go_wp2_with fail
              refine (HDO.out w5 _ P5.out.1).mono ?_
              rintro e w7 ⟨sa, nn, cc, rfl, P7⟩
              clear k0 k1 k2 k3 k4 k5 k6 k7 k8 k9 k10 k11 k12
              have k0 := (HC.out w7 P7.out.1.below).1
              go_wp2_with fail
              refine (HNB.out w7 _ P7.out.1).mono ?_
              rintro e w' ⟨rfl, rfl⟩
              go_wp2_with fail
              go_roundw
              case rel => exact ⟨i + 1, by go_num, by omega, Lib.hid ⟨ly, zy, P7.out.1.rest⟩⟩
              case measure => simp [RowKit.intOf]; omega
        · have hne : (er == 0) = false := by simpa using he
          have hnb : (er != 0) = true := by simpa using he
          obtain ⟨e1, e2⟩ := hre he
          have hmn : ym = yn := by omega
          have y1 : (ym != yn) = false := by simp [hmn]
          have y2 : (ym == yn) = true := by simp [hmn]
          have HLB : Hid (∀ W rows, DS w W Q ly zy rows [⟨Q2, L, zL⟩] [] → Calls Try.prog 9 #[ptr Q] W fun e w' => ∃ a c, e = .returned (.slice a lx.length c) ∧ Hid (DS w w' Q ly zy ((.slice a lx.length c, ly) :: rows) [⟨Q2, L, zL⟩] [])) := Lib.hid (fun W rows h => by
            refine (HLI.out W Q ly zy rows _ h).mono ?_
            rintro e w' ⟨a, n, c, rfl, H⟩
            obtain ⟨g1, g2⟩ := H.out
            rw [e1] at g2
            subst g2
            exact ⟨a, c, rfl, Lib.hid g1⟩)
          have HSA : Hid (∀ W a c b d, DS w W Q ly zy [(.slice a lx.length c, ly), (.slice b lx.length d, lx), (.slice a2 n2 c2, L)] [⟨Q2, L, zL⟩] [] → Calls Try.prog 12 #[.slice a lx.length c, .slice b lx.length d] W fun e w' => e = .returned (.bool true) ∧ Hid (DS w w' Q ly zy [(.slice a2 n2 c2, L)] [⟨Q2, L, zL⟩] [])) := Lib.hid (fun W a c b d h => by
            have g1 : OwnV W 0 (.slice a lx.length c) lx := e1 ▸ h.own (v := .slice a lx.length c) (lx := ly) (by simp)
            have g2 : OwnV W 0 (.slice b lx.length d) lx := h.own (v := .slice b lx.length d) (lx := lx) (by simp)
            exact (same_own g1 g2 rfl (by have := hgx.len; omega)).mono fun _ _ ⟨e, hb⟩ => ⟨e, Lib.hid (h.under hb).rest.rest⟩)
          obtain ⟨N, hN⟩ : ∃ N, lx.length = N := ⟨_, rfl⟩
          have HLA2 : Hid (Calls Try.prog 9 #[ptr Q] wr fun e w' => ∃ a c, e = .returned (.slice a N c) ∧ Hid (DS w w' Q lx zx ((.slice a N c, lx) :: [(.slice a2 n2 c2, L)]) [⟨Q2, L, zL⟩] [])) := Lib.hid (by
            refine HLA.out.mono ?_
            rintro e w' ⟨a, n, c, rfl, H⟩
            obtain ⟨g1, g2⟩ := H.out
            obtain rfl : n = N := g2.symm.trans hN
            exact ⟨a, c, rfl, Lib.hid g1⟩)
          rw [hN] at HLB HSA
          clear hP hgx hiy hzx hyn her hly hzy hgd hzy2 hym hre he e1 e2 hmn hN HLA
          go_wp2_with fail
          refine HLA2.out.mono ?_
          rintro e w5 ⟨a5, c5, rfl, P5⟩
          go_wp2_with fail
          refine (HNA.out w5 _ P5.out).mono ?_
          rintro e w' ⟨rfl, rfl⟩
          obtain ⟨k0, k1, k2, k3, k4, k5, k6, k7, k8, k9, k10, k11, k12⟩ := HC.out w5 P5.out.below
          go_wp2_with fail
          refine (HDO.out w5 _ P5.out).mono ?_
          rintro e w7 ⟨sa, nn, cc, rfl, P7⟩
          clear k0 k1 k2 k3 k4 k5 k6 k7 k8 k9 k10 k11 k12
          go_wp2_with fail
          refine (HLB.out w7 _ P7.out.1).mono ?_
          rintro e w8 ⟨a8, c8, rfl, P8⟩
          go_wp2_with fail
          refine (HSA.out w8 _ _ _ _ P8.out).mono ?_
          rintro e w9 ⟨rfl, P9⟩
          go_wp2_with fail
          refine (HNB.out w9 _ P9.out).mono ?_
          rintro e w' ⟨rfl, rfl⟩
          go_wp2_with fail
          refine (HNB.out w9 _ P9.out).mono ?_
          rintro e w' ⟨rfl, rfl⟩
          have k0 := (HC.out w9 P9.out.below).1
          go_wp2_with fail
          go_roundw
          case rel => exact ⟨i + 1, by go_num, by omega, Lib.hid ⟨ly, zy, P9.out⟩⟩
          case measure => simp [RowKit.intOf]; omega
      · obtain rfl : i = m := by omega
        have HLC : Hid (Calls Try.prog 9 #[ptr Q2] wr fun e w' => ∃ a c, e = .returned (.slice a n2 c) ∧ Hid (DS w w' Q lx zx [(.slice a2 n2 c2, L)] [⟨Q2, L, zL⟩] [] ∧ OwnV w' 0 (.slice a n2 c) L)) := Lib.hid (by
          refine (cl_list (c := ⟨Q2, L, zL⟩) hP (by simp)).mono ?_
          rintro e w' ⟨a, n, c, rfl, H⟩
          obtain ⟨g1, g2, g3⟩ := H.out
          obtain rfl : n = n2 := g3.symm.trans HN2.out
          exact ⟨a, c, rfl, Lib.hid ⟨g1, g2⟩⟩)
        have HSA : Hid (∀ W a c, DS w W Q lx zx [(.slice a2 n2 c2, L)] [⟨Q2, L, zL⟩] [] → OwnV W 0 (.slice a n2 c) L → Calls Try.prog 12 #[.slice a n2 c, .slice a2 n2 c2] W fun e w' => e = .returned (.bool true) ∧ Hid (DS w w' Q lx zx [(.slice a2 n2 c2, L)] [⟨Q2, L, zL⟩] [])) := Lib.hid (fun W a c h g1 => by
          exact (same_own g1 (h.own (v := .slice a2 n2 c2) (lx := L) (by simp)) HN2.out (by have := HLL.out; have := HN2.out; omega)).mono fun _ _ ⟨e, hb⟩ => ⟨e, Lib.hid (h.under hb)⟩)
        have HNC : Hid (∀ W, DS w W Q lx zx [(.slice a2 n2 c2, L)] [⟨Q2, L, zL⟩] [] → Calls Try.prog 10 #[ptr Q2] W fun e w' => e = .returned (.int .i64 next) ∧ W = w') := Lib.hid (fun W h => by
          have := cl_next (c := ⟨Q2, L, zL⟩) h (by simp)
          rw [show ((⟨Q2, L, zL⟩ : Cl).z + 1) = next from HNX.out] at this
          exact this)
        have n1 : (next == next) = true := by simp
        clear hP
        go_wp2_with fail
        refine HLC.out.mono ?_
        rintro e w5 ⟨a5, c5, rfl, P5⟩
        go_wp2_with fail
        refine (HSA.out _ _ _ P5.out.1 P5.out.2).mono ?_
        rintro e w6 ⟨rfl, P6⟩
        go_wp2_with fail
        refine (HNC.out _ P6.out).mono ?_
        rintro e w' ⟨rfl, rfl⟩
        go_wp2_with fail
        refine (HAW.out _ P6.out.below).mono ?_
        rintro e w8 ⟨rfl, B8⟩
        go_wp2_with fail
        go_ret
        exact ⟨rfl, B8.out⟩
  · have HL2 : Hid (Calls Try.prog 7 #[.slice a n c, .int .i64 next] w fun e w' => e = .returned (.tuple #[.pointer none, .int .i64 er]) ∧ Hid (Below w.heap.size w w')) := Lib.hid (by
      refine HLD.out.mono ?_
      rintro e w' ⟨p, rfl, H⟩
      obtain ⟨g1, g2, _⟩ := H.out
      rw [her] at g2
      rw [g2 h0, her]
      exact ⟨rfl, Lib.hid g1⟩)
    have hne : (er == 0) = false := by simpa using h0
    have hnb : (er != 0) = true := by simpa using h0
    clear hl hs hm hx hix h12 h25 her hn hm25 HLD
    go_enter Try.func3, Try.ntmps3
    go_wp2_with fail
    refine HL2.out.mono ?_
    rintro e w1 ⟨rfl, B1⟩
    go_wp2_with fail
    refine (HAW.out w1 B1.out).mono ?_
    rintro e w5 ⟨rfl, B5⟩
    go_wp2_with fail
    go_ret
    exact ⟨rfl, B5.out⟩
end Go.Proofs.Ytfebaiefoonncaa.Draft
