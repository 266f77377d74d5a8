/- BinsStay, for any bins that keep their contracts. -/
import Derived.Test.YtkljaaeeocghjaaBinM
namespace Go.Proofs.Ytkljaaeeocghjaa.Bins
open Go.RowKit Go.Lib
open Goods (St Sts OwnS)

variable {I : Impl}
/-- An act of the kind 3 changes no total. -/
theorem tot_do3 {l : List Lt} (h : Good l) {x : Act} (hk : x.kind = 3) (k : Int) : tot (doL l x) k = tot l k := by
  have e : doL l x = moveL l x.a x.b x.n := by unfold doL; rw [if_neg (by omega), if_neg (by omega), if_pos hk]
  rw [e, tot_move h]
set_option maxRecDepth 100000 in
set_option maxHeartbeats 16000000 in
theorem binsStay_in (I : Impl) (a : Option Addr) (n c : Nat) (l : List Lt) (b : Option Addr) (m d : Nat) (xs : List Act) (w : World) (hl : l.length = n) (hs : Lots w a l) (hi : InL l) (hm : xs.length = m) (hx : Acts w b xs) (hix : ∀ x ∈ xs, InAct x) :
    Calls Try.prog 4 #[.slice a n c, .slice b m d] w fun e w' => e = .returned (.bool true) ∧ Below w.heap.size w w' := by
  have HAW := awake_at I w
  by_cases h12 : (12 : Int) < (n : Int)
  · have H0 := Lib.hid (HAW.out w (Below.refl _ _))
    have d1 : decide ((12 : Int) < (n : Int)) = true := decide_eq_true h12
    clear hl hs hi hm hx hix HAW
    go_enter Try.func4, Try.ntmps4
    go_wp2_with fail
    refine H0.out.mono ?_
    rintro e w1 ⟨rfl, B1⟩
    go_wp2_with fail
    go_ret
    exact ⟨rfl, B1.out⟩
  have d1 : decide ((12 : Int) < (n : Int)) = false := decide_eq_false h12
  have HFW := Lib.hid (dfew b m d xs 20 w hx hm (by omega))
  obtain ⟨hyes, hno⟩ := pl_load I a n c l w hs hl (by omega) hi
  have hn : n ≤ 12 := by omega
  by_cases h0 : loadE l = 0
  · have HLD := Lib.hid (hyes h0)
    obtain ⟨hg0, hl0⟩ := good_load h0
    obtain ⟨L, hL⟩ : ∃ L, loadL l = L := ⟨_, rfl⟩
    rw [hL] at HLD hg0 hl0
    have HG0 : Hid (Good L ∧ L.length ≤ 12) := Lib.hid ⟨hg0, by omega⟩
    have HX := acts_all hx
    have HM := Lib.hid hm
    have HIX := Lib.hid hix
    have HCL : Hid (∀ W Q, PS I w W Q L [] [] [] → Calls Try.prog 22 #[ptr Q] W fun e w' => ∃ Q2, e = .returned (ptr Q2) ∧ Hid (PS I w w' Q L [] [⟨Q2, L, .slice none 0 0, []⟩] [])) := Lib.hid (fun W Q h => bs_clone h HG0.out.1 (by have := HG0.out.2; omega))
    have HLC : Hid (∀ W Q Q2, PS I w W Q L [] [⟨Q2, L, .slice none 0 0, []⟩] [] → Calls Try.prog 14 #[ptr Q] W fun e w' => ∃ a n c, e = .returned (.slice a n c) ∧ Hid (PS I w w' Q L [] [⟨Q2, L, .slice a n c, L⟩] [])) := Lib.hid (fun W Q Q2 h => bs_list_cl h HG0.out.1 (by have := HG0.out.2; omega))
    have HLI : Hid (∀ W Q lx rows cl, PS I w W Q lx rows cl [] → Good lx → lx.length ≤ 1000 → Calls Try.prog 14 #[ptr Q] W fun e w' => ∃ a n c, e = .returned (.slice a n c) ∧ Hid (PS I w w' Q lx ((.slice a n c, lx) :: rows) cl [])) := Lib.hid (fun W Q lx rows cl h hg hl => (bs_list h hg hl).mono fun _ _ ⟨a, n, c, e, h2⟩ => ⟨a, n, c, e, Lib.hid h2.out.1⟩)
    clear hl hs hi hm hx hix hyes hno h0 hg0 hl0 h12 hL hn
    go_enter Try.func4, Try.ntmps4
    go_wp2_with fail
    refine HFW.out.mono ?_
    rintro e w0 ⟨f, rfl, HF, rfl⟩
    rcases f with _ | _
    · have H0 := Lib.hid (HAW.out w (Below.refl _ _))
      go_wp2_with fail
      refine H0.out.mono ?_
      rintro e w1 ⟨rfl, B1⟩
      go_wp2_with fail
      go_ret
      exact ⟨rfl, B1.out⟩
    have HFM : Hid (m ≤ 20 ∧ ∀ x ∈ xs, x.sm ≤ 12) := Lib.hid (HF.out rfl)
    have hm1 : (m : Int) ≤ 20 := by have := HFM.out.1; omega
    clear HF HFW
    go_wp2_with fail
    refine HLD.out.mono ?_
    rintro e w1 ⟨Q, rfl, P1⟩
    go_wp2_with fail
    refine (HCL.out w1 Q P1.out).mono ?_
    rintro e w2 ⟨Q2, rfl, P2⟩
    go_wp2_with fail
    refine (HLC.out w2 Q Q2 P2.out).mono ?_
    rintro e w3 ⟨a2, n2, c2, rfl, P3⟩
    clear P1 P2 HCL HLC HLD
    go_wp2_with fail
    go_loopw [9] (fun t wr => ∃ i : Nat, t = .int .i64 i ∧ i ≤ m ∧ Hid (∃ lx, PS I w wr Q lx [] [⟨Q2, L, .slice a2 n2 c2, L⟩] [] ∧ Good lx ∧ lx.length ≤ 12 + 14 * i)) (fun t _ => m - (RowKit.intOf t).toNat)
    case atStart => exact ⟨0, rfl, by omega, Lib.hid ⟨L, P3.out, HG0.out.1, by have := HG0.out.2; omega⟩⟩
    case round =>
      clear P3
      obtain ⟨i, rfl, hi, HI⟩ := hrel
      have hi0 : (0 : Int) ≤ (i : Int) := by omega
      obtain ⟨lx, hP, hg, hll⟩ := HI.out
      have h900 : lx.length ≤ 900 := by have := HFM.out.1; omega
      clear HI
      by_cases hlt : i < m
      · have hlt2 : (i : Int) < (m : Int) := by omega
        have dlt : decide ((i : Int) < (m : Int)) = true := decide_eq_true hlt2
        have HLA := Lib.hid (HLI.out wr Q lx _ _ hP hg (by omega))
        obtain ⟨g, off, y, rfl, hyi, HOK, HC⟩ := HX.out i (by rw [HM.out]; exact hlt)
        have hiy := HIX.out y (List.mem_of_getElem? hyi.out)
        have hym := HFM.out.2 y (List.mem_of_getElem? hyi.out)
        have hgd := good_do hg y
        have hys : y.s.length = y.sm := HOK.out.1
        have h900y : (doL lx y).length ≤ 900 := by have := HFM.out.1; omega
        obtain ⟨z, hz⟩ : ∃ z, tot lx y.a.t = z := ⟨_, rfl⟩
        have HT1 : Hid (∀ W rows cl, PS I w W Q lx rows cl [] → Calls Try.prog 17 #[ptr Q, .int .i64 y.a.t] W fun e w' => e = .returned (.int .i64 z) ∧ Hid (PS I w w' Q lx rows cl [])) := Lib.hid (fun W rows cl h => by rw [← hz]; exact bs_total y.a.t h hg (by omega) hiy.2.1.2.2.2)
        obtain ⟨er, her⟩ : ∃ er, doE lx y = er := ⟨_, rfl⟩
        have HDO : Hid (∀ W rows cl, PS I w W Q lx rows cl [] → Calls Try.prog 12 #[ptr Q, actV y] W fun e w' => e = .returned (.int .i64 er) ∧ Hid (PS I w w' Q (doL lx y) rows cl [])) := Lib.hid (fun W rows cl h => by
          rw [← her]
          exact pdo y h hg h900 hiy HOK.out (by omega))
        have htm := fun hk => tot_do3 hg (x := y) hk y.a.t
        have hre := do_refused (l := lx) (x := y)
        rw [her] at hre
        obtain ⟨ly, hly⟩ : ∃ ly, doL lx y = ly := ⟨_, rfl⟩
        rw [hly] at HDO hgd h900y htm hre
        have HGL : Hid (Good ly ∧ ly.length ≤ 12 + 14 * (i + 1)) := Lib.hid ⟨hgd.1, by have := hgd.2; omega⟩
        have HT2 : Hid (∀ W rows cl, y.kind = 3 → PS I w W Q ly rows cl [] → Calls Try.prog 17 #[ptr Q, .int .i64 y.a.t] W fun e w' => e = .returned (.int .i64 z) ∧ Hid (PS I w w' Q ly rows cl [])) := Lib.hid (fun W rows cl hk h => by rw [← hz, ← htm hk]; exact bs_total y.a.t h hgd.1 (by omega) hiy.2.1.2.2.2)
        have HCC : Hid (∀ W, Below w.heap.size w W → CellsA W g (off + i * 11) y) := HC
        have e3 : (z == z) = true := by simp
        have e7 : (z != z) = false := by simp
        by_cases he : er = 0
        · subst he
          by_cases hk : y.kind = 3
          · have hk1 : (y.kind == 3) = true := by simpa using hk
            have HT3 : Hid (∀ W rows cl, PS I w W Q ly rows cl [] → Calls Try.prog 17 #[ptr Q, .int .i64 y.a.t] W fun e w' => e = .returned (.int .i64 z) ∧ Hid (PS I w w' Q ly rows cl [])) := Lib.hid (fun W rows cl h => HT2.out W rows cl hk h)
            clear hP hg hll h900 hiy hym hgd hys h900y htm hre her hly hz hk HT2
            go_wp2_with fail
            refine HLA.out.mono ?_
            rintro e w5 ⟨a5, n5, c5, rfl, P5⟩
            obtain ⟨k0, k1, ⟨k2, k3, k4, k5⟩, ⟨k6, k7, k8, k9⟩, k10⟩ := HCC.out w5 P5.out.below
            go_wp2_with fail
            refine (HT1.out w5 _ _ P5.out).mono ?_
            rintro e w6 ⟨rfl, P6⟩
            clear k0 k1 k2 k3 k4 k5 k6 k7 k8 k9 k10
            obtain ⟨k0, k1, ⟨k2, k3, k4, k5⟩, ⟨k6, k7, k8, k9⟩, k10⟩ := HCC.out w6 P6.out.below
            go_wp2_with fail
            refine (HDO.out w6 _ _ P6.out).mono ?_
            rintro e w7 ⟨rfl, P7⟩
            clear k0 k1 k2 k3 k4 k5 k6 k7 k8 k9 k10
            obtain ⟨k0, _⟩ := HCC.out w7 P7.out.below
            go_wp2_with fail
            refine (HT3.out w7 _ _ P7.out).mono ?_
            rintro e w8 ⟨rfl, P8⟩
            go_wp2_with fail
            go_roundw
            case rel => exact ⟨i + 1, by go_num, by omega, Lib.hid ⟨ly, P8.out.rest, HGL.out⟩⟩
            case measure => simp [RowKit.intOf]; omega
          · have hk1 : (y.kind == 3) = false := by simpa using hk
            clear hP hg hll h900 hiy hym hgd hys h900y htm hre her hly hz hk HT2
            go_wp2_with fail
            refine HLA.out.mono ?_
            rintro e w5 ⟨a5, n5, c5, rfl, P5⟩
            obtain ⟨k0, k1, ⟨k2, k3, k4, k5⟩, ⟨k6, k7, k8, k9⟩, k10⟩ := HCC.out w5 P5.out.below
            go_wp2_with fail
            refine (HT1.out w5 _ _ P5.out).mono ?_
            rintro e w6 ⟨rfl, P6⟩
            clear k0 k1 k2 k3 k4 k5 k6 k7 k8 k9 k10
            obtain ⟨k0, k1, ⟨k2, k3, k4, k5⟩, ⟨k6, k7, k8, k9⟩, k10⟩ := HCC.out w6 P6.out.below
            go_wp2_with fail
            refine (HDO.out w6 _ _ P6.out).mono ?_
            rintro e w7 ⟨rfl, P7⟩
            clear k0 k1 k2 k3 k4 k5 k6 k7 k8 k9 k10
            obtain ⟨k0, _⟩ := HCC.out w7 P7.out.below
            go_wp2_with fail
            go_roundw
            case rel => exact ⟨i + 1, by go_num, by omega, Lib.hid ⟨ly, P7.out.rest, HGL.out⟩⟩
            case measure => simp [RowKit.intOf]; omega
        · have hne : (er == 0) = false := by simpa using he
          have hnb : (er != 0) = true := by simpa using he
          have hnz : ¬ er = 0 := he
          have hyx := hre he
          subst hyx
          have HLB : Hid (∀ W rows cl, PS I w W Q ly rows cl [] → Calls Try.prog 14 #[ptr Q] W fun e w' => ∃ a n c, e = .returned (.slice a n c) ∧ Hid (PS I w w' Q ly ((.slice a n c, ly) :: rows) cl [])) := Lib.hid (fun W rows cl h => HLI.out W Q ly rows cl h HGL.out.1 (by have := HFM.out.1; have := HGL.out.2; omega))
          have HSA : Hid (∀ W a n c b m d cl, PS I w W Q ly [(.slice a n c, ly), (.slice b m d, ly)] cl [] → Calls Try.prog 13 #[.slice a n c, .slice b m d] W fun e w' => e = .returned (.bool true) ∧ Hid (PS I w w' Q ly [(.slice b m d, ly)] cl [])) := Lib.hid (fun W a n c b m d cl h => pl_same h (by simp) (by have := HFM.out.1; have := HGL.out.2; omega))
          by_cases hk : y.kind = 3
          · have hk1 : (y.kind == 3) = true := by simpa using hk
            have HT3 : Hid (∀ W rows cl, PS I w W Q ly rows cl [] → Calls Try.prog 17 #[ptr Q, .int .i64 y.a.t] W fun e w' => e = .returned (.int .i64 z) ∧ Hid (PS I w w' Q ly rows cl [])) := Lib.hid (fun W rows cl h => HT2.out W rows cl hk h)
            clear hP hg hll h900 hiy hym hgd hys h900y htm hre her hly hz hk HT2 he
            go_wp2_with fail
            refine HLA.out.mono ?_
            rintro e w5 ⟨a5, n5, c5, rfl, P5⟩
            obtain ⟨k0, k1, ⟨k2, k3, k4, k5⟩, ⟨k6, k7, k8, k9⟩, k10⟩ := HCC.out w5 P5.out.below
            go_wp2_with fail
            refine (HT1.out w5 _ _ P5.out).mono ?_
            rintro e w6 ⟨rfl, P6⟩
            clear k0 k1 k2 k3 k4 k5 k6 k7 k8 k9 k10
            obtain ⟨k0, k1, ⟨k2, k3, k4, k5⟩, ⟨k6, k7, k8, k9⟩, k10⟩ := HCC.out w6 P6.out.below
            go_wp2_with fail
            refine (HDO.out w6 _ _ P6.out).mono ?_
            rintro e w7 ⟨rfl, P7⟩
            clear k0 k1 k2 k3 k4 k5 k6 k7 k8 k9 k10
            go_wp2_with fail
            refine (HLB.out w7 _ _ P7.out).mono ?_
            rintro e w8 ⟨a8, n8, c8, rfl, P8⟩
            go_wp2_with fail
            refine (HSA.out w8 _ _ _ _ _ _ _ P8.out).mono ?_
            rintro e w9 ⟨rfl, P9⟩
            obtain ⟨k0, _⟩ := HCC.out w9 P9.out.below
            go_wp2_with fail
            refine (HT3.out w9 _ _ P9.out).mono ?_
            rintro e w10 ⟨rfl, P10⟩
            go_wp2_with fail
            go_roundw
            case rel => exact ⟨i + 1, by go_num, by omega, Lib.hid ⟨ly, P10.out.rest, HGL.out⟩⟩
            case measure => simp [RowKit.intOf]; omega
          · have hk1 : (y.kind == 3) = false := by simpa using hk
            clear hP hg hll h900 hiy hym hgd hys h900y htm hre her hly hz hk HT2 he
            go_wp2_with fail
            refine HLA.out.mono ?_
            rintro e w5 ⟨a5, n5, c5, rfl, P5⟩
            obtain ⟨k0, k1, ⟨k2, k3, k4, k5⟩, ⟨k6, k7, k8, k9⟩, k10⟩ := HCC.out w5 P5.out.below
            go_wp2_with fail
            refine (HT1.out w5 _ _ P5.out).mono ?_
            rintro e w6 ⟨rfl, P6⟩
            clear k0 k1 k2 k3 k4 k5 k6 k7 k8 k9 k10
            obtain ⟨k0, k1, ⟨k2, k3, k4, k5⟩, ⟨k6, k7, k8, k9⟩, k10⟩ := HCC.out w6 P6.out.below
            go_wp2_with fail
            refine (HDO.out w6 _ _ P6.out).mono ?_
            rintro e w7 ⟨rfl, P7⟩
            clear k0 k1 k2 k3 k4 k5 k6 k7 k8 k9 k10
            go_wp2_with fail
            refine (HLB.out w7 _ _ P7.out).mono ?_
            rintro e w8 ⟨a8, n8, c8, rfl, P8⟩
            go_wp2_with fail
            refine (HSA.out w8 _ _ _ _ _ _ _ P8.out).mono ?_
            rintro e w9 ⟨rfl, P9⟩
            obtain ⟨k0, _⟩ := HCC.out w9 P9.out.below
            go_wp2_with fail
            go_roundw
            case rel => exact ⟨i + 1, by go_num, by omega, Lib.hid ⟨ly, P9.out.rest, HGL.out⟩⟩
            case measure => simp [RowKit.intOf]; omega
      · obtain rfl : i = m := by omega
        have PC := Lib.hid hP.ofClone
        have HLC := Lib.hid (HLI.out wr Q2 L _ _ PC.out HG0.out.1 (by have := HG0.out.2; omega))
        have HSA : Hid (∀ W a n c, PS I w W Q2 L [(.slice a n c, L), (.slice a2 n2 c2, L)] [] [] → Calls Try.prog 13 #[.slice a n c, .slice a2 n2 c2] W fun e w' => e = .returned (.bool true) ∧ Hid (PS I w w' Q2 L [(.slice a2 n2 c2, L)] [] [])) := Lib.hid (fun W a n c h => pl_same h (by simp) (by have := HG0.out.2; omega))
        clear hP hg hll h900
        go_wp2_with fail
        refine HLC.out.mono ?_
        rintro e w5 ⟨a5, n5, c5, rfl, P5⟩
        go_wp2_with fail
        refine (HSA.out _ _ _ _ P5.out).mono ?_
        rintro e w6 ⟨rfl, P6⟩
        go_wp2_with fail
        refine (HAW.out _ P6.out.below).mono ?_
        rintro e w8 ⟨rfl, B8⟩
        go_wp2_with fail
        go_ret
        exact ⟨rfl, B8.out⟩
  · have HLD := Lib.hid (hno h0)
    obtain ⟨er, her⟩ : ∃ er, loadE l = er := ⟨_, rfl⟩
    rw [her] at HLD h0
    have hne : (er == 0) = false := by simpa using h0
    have hnb : (er != 0) = true := by simpa using h0
    have hnz : ¬ er = 0 := h0
    clear hl hs hi hm hx hix hyes hno h0 h12 her hn
    go_enter Try.func4, Try.ntmps4
    go_wp2_with fail
    refine HFW.out.mono ?_
    rintro e w0 ⟨f, rfl, _, rfl⟩
    clear HFW
    rcases f with _ | _
    · have H0 := Lib.hid (HAW.out w (Below.refl _ _))
      go_wp2_with fail
      refine H0.out.mono ?_
      rintro e w1 ⟨rfl, B1⟩
      go_wp2_with fail
      go_ret
      exact ⟨rfl, B1.out⟩
    go_wp2_with fail
    refine HLD.out.mono ?_
    rintro e w1 ⟨rfl, B1⟩
    go_wp2_with fail
    refine (HAW.out w1 B1.out).mono ?_
    rintro e w5 ⟨rfl, B5⟩
    go_wp2_with fail
    go_ret
    exact ⟨rfl, B5.out⟩
end Go.Proofs.Ytkljaaeeocghjaa.Bins
