/- PurseStays, for any purse that keeps its contracts. -/
import Derived.Test.YteglahogimdnfaaPurK
namespace Go.Proofs.Yteglahogimdnfaa.Purse
open Go.RowKit Go.Lib

variable {I : Impl}
theorem ps_clone {w W : World} {Q : Nat} {l : List Ac} {rows : List (Value × List Ac)} {v : Value} {r : List Ac} (h : PS I w W Q l rows []) (hm : (v, r) ∈ rows) (hg : Good l) (hl : l.length ≤ 1000) :
    Calls Try.prog 18 #[ptr Q] W fun e w' => ∃ Q2, e = .returned (ptr Q2) ∧ Hid (PS I w w' Q l rows [⟨Q2, l, v, r⟩]) := by
  obtain ⟨F, R, h⟩ := h
  have hlt := (h.row _ hm).1.lt
  refine (I.clone W h.pq hg hl).mono ?_
  rintro e w' ⟨Q2, rfl, F2, R2, F', R', h1, s, h2, h3, h4⟩
  have h5 := h.step h1 s
  refine ⟨Q2, rfl, Lib.hid ⟨F', R', h5.pq, h5.below, h5.new, h5.row, fun c hc => ?_⟩⟩
  obtain rfl := List.mem_singleton.1 hc
  refine ⟨F2, R2, h2, (h5.row _ hm).1, fun k hk => ?_, fun k hk => Nat.le_trans h.below.size (h3 k hk), fun k hk hf => ?_⟩
  · rcases hk with h6 | h6 | h6
    · exact h4 k (.inl h6)
    · exact h4 k (.inr h6)
    · exact (h5.row _ hm).2 k h6
  · have h6 := (hlt k hk).2
    have h7 := h3 k hf
    omega
/-- The clone, beside its row. -/
theorem PS.ofClone {w W : World} {Q : Nat} {l : List Ac} {rows : List (Value × List Ac)} {c : Cl} (h : PS I w W Q l rows [c]) : PS I w W c.q c.l [(c.v, c.r)] [] := by
  obtain ⟨F, R, h⟩ := h
  obtain ⟨F2, R2, h1, h2, h3, h4, h5⟩ := h.clone c (by simp)
  refine ⟨F2, R2, h1, h.below, h4, fun r hr => ?_, fun c hc => (by cases hc)⟩
  obtain rfl := List.mem_singleton.1 hr
  exact ⟨h2, h5⟩
set_option maxRecDepth 100000 in
set_option maxHeartbeats 8000000 in
theorem purseStays_in (I : Impl) (a : Option Addr) (n c : Nat) (l : List Ac) (b : Option Addr) (m d : Nat) (ps : List Pay) (w : World) (hl : l.length = n) (hs : Accs w a l) (hi : InA l) (hm : ps.length = m) (hx : Pays w b ps) (hix : InP ps) :
    Calls Try.prog 5 #[.slice a n c, .slice b m d] w fun e w' => e = .returned (.bool true) ∧ Below w.heap.size w w' := by
  have HAW := awake_at I w
  by_cases h8 : (8 : Int) < (n : Int)
  · have H0 := Lib.hid (HAW.out w (Below.refl _ _))
    have d1 : decide ((8 : Int) < (n : Int)) = true := decide_eq_true h8
    clear hl hs hi hm hx hix HAW
    go_enter Try.func5, Try.ntmps5
    go_wp2_with fail
    refine H0.out.mono ?_
    rintro e w1 ⟨rfl, B1⟩
    go_wp2_with fail
    go_ret
    exact ⟨rfl, B1.out⟩
  have d1 : decide ((8 : Int) < (n : Int)) = false := decide_eq_false h8
  by_cases h20 : (20 : Int) < (m : Int)
  · have H0 := Lib.hid (HAW.out w (Below.refl _ _))
    have d2 : decide ((20 : Int) < (m : Int)) = true := decide_eq_true h20
    clear hl hs hi hm hx hix HAW
    go_enter Try.func5, Try.ntmps5
    go_wp2_with fail
    refine H0.out.mono ?_
    rintro e w1 ⟨rfl, B1⟩
    go_wp2_with fail
    go_ret
    exact ⟨rfl, B1.out⟩
  have d2 : decide ((20 : Int) < (m : Int)) = false := decide_eq_false h20
  obtain ⟨hyes, hno⟩ := pl_load I a n c l w hs hl (by omega) hi
  by_cases h0 : loadE l = 0
  · have HLD := Lib.hid (hyes h0)
    obtain ⟨hg0, hl0⟩ := good_load h0
    obtain ⟨L, hL⟩ : ∃ L, loadL l = L := ⟨_, rfl⟩
    rw [hL] at HLD hg0 hl0
    have HG0 : Hid (Good L ∧ L.length ≤ 1000) := Lib.hid ⟨hg0, by omega⟩
    obtain ⟨z, hz⟩ : ∃ z, tot L = z := ⟨_, rfl⟩
    have HZ := Lib.hid hz
    have HLI : Hid (∀ W Q lx rows cl, PS I w W Q lx rows cl → Good lx → lx.length ≤ 1000 → Calls Try.prog 13 #[ptr Q] W fun e w' => ∃ a n c, e = .returned (.slice a n c) ∧ Hid (PS I w w' Q lx ((.slice a n c, lx) :: rows) cl)) := Lib.hid (fun W Q lx rows cl h hg hl => (ps_list h hg hl).mono fun _ _ ⟨a, n, c, e, h2⟩ => ⟨a, n, c, e, Lib.hid h2.out.1⟩)
    have HX := pays_at hx
    have HM := Lib.hid hm
    have HIX := Lib.hid hix
    have hm1 : (m : Int) ≤ 1048576 := by omega
    have ez : (z == z) = true := by simp
    clear hl hs hi hm hx hix hyes hno h0 hg0 hl0 h8 h20 hL hz
    go_enter Try.func5, Try.ntmps5
    go_wp2_with fail
    refine HLD.out.mono ?_
    rintro e w1 ⟨Q, rfl, P1⟩
    go_wp2_with fail
    refine (HLI.out w1 Q L [] [] P1.out HG0.out.1 HG0.out.2).mono ?_
    rintro e w2 ⟨a2, n2, c2, rfl, P2⟩
    have HT1 : Hid (Calls Try.prog 14 #[ptr Q] w2 fun e w' => e = .returned (.int .i64 z) ∧ Hid (PS I w w' Q L [(.slice a2 n2 c2, L)] [])) := Lib.hid (by rw [← HZ.out]; exact ps_total P2.out HG0.out.1 HG0.out.2)
    go_wp2_with fail
    refine HT1.out.mono ?_
    rintro e w3 ⟨rfl, P3⟩
    have HCL := Lib.hid (ps_clone P3.out (v := .slice a2 n2 c2) (r := L) (by simp) HG0.out.1 HG0.out.2)
    clear HT1
    go_wp2_with fail
    refine HCL.out.mono ?_
    rintro e w4 ⟨Q2, rfl, P4⟩
    clear P1 P2 P3 HCL HLD
    go_wp2_with fail
    go_loopw [10] (fun t wr => ∃ i : Nat, t = .int .i64 i ∧ i ≤ m ∧ Hid (∃ lx, PS I w wr Q lx [(.slice a2 n2 c2, L)] [⟨Q2, L, .slice a2 n2 c2, L⟩] ∧ Good lx ∧ lx.length ≤ 1000 ∧ tot lx = z)) (fun t _ => m - (RowKit.intOf t).toNat)
    case atStart => exact ⟨0, rfl, by omega, Lib.hid ⟨L, P4.out, HG0.out.1, HG0.out.2, HZ.out⟩⟩
    case round =>
      clear P4
      obtain ⟨i, rfl, hi, HI⟩ := hrel
      have hi0 : (0 : Int) ≤ (i : Int) := by omega
      obtain ⟨lx, hP, hg, hll, htz⟩ := HI.out
      clear HI
      by_cases hlt : i < m
      · have hlt2 : (i : Int) < (m : Int) := by omega
        have HLA := Lib.hid (HLI.out wr Q lx _ _ hP hg hll)
        obtain ⟨g, off, p, rfl, hpi, _⟩ := HX.out wr i hP.below (by rw [HM.out]; exact hlt)
        have HPC : Hid (∀ W, Below w.heap.size w W → W.cell? ⟨g, off + i * 3, none⟩ = some (.int .i64 p.src) ∧ W.cell? ⟨g, off + i * 3 + 1, none⟩ = some (.int .i64 p.dst) ∧ W.cell? ⟨g, off + i * 3 + 2, none⟩ = some (.int .i64 p.num)) := Lib.hid (fun W hW => by
          obtain ⟨g2, off2, p2, e, hpi2, j0, j1, j2⟩ := HX.out W i hW (by rw [HM.out]; exact hlt)
          have e2 := hpi2.out
          rw [hpi.out] at e2
          cases e
          cases e2
          exact ⟨j0, j1, j2⟩)
        obtain ⟨i1, i2, i3⟩ := HIX.out p (List.mem_of_getElem? hpi.out)
        have hgm := good_move hg p.src p.dst p.num
        have hlm := move_length lx p.src p.dst p.num
        have htm := tot_move lx p.src p.dst p.num
        have hre := move_refused (l := lx) (f := p.src) (t := p.dst) (n := p.num)
        obtain ⟨er, her⟩ : ∃ er, moveE lx p.src p.dst p.num = er := ⟨_, rfl⟩
        have HMV : Hid (∀ W rows cl, PS I w W Q lx rows cl → Calls Try.prog 19 #[ptr Q, .int .i64 p.src, .int .i64 p.dst, .int .i64 p.num] W fun e w' => e = .returned (.int .i64 er) ∧ Hid (PS I w w' Q (moveL lx p.src p.dst p.num) rows cl)) := Lib.hid (fun W rows cl h => by rw [← her]; exact ps_move p.src p.dst p.num h hg hll i1 i2 i3)
        rw [her] at hre
        obtain ⟨ly, hly⟩ : ∃ ly, moveL lx p.src p.dst p.num = ly := ⟨_, rfl⟩
        rw [hly] at hgm hlm htm hre HMV
        have HGY : Hid (Good ly ∧ ly.length ≤ 1000 ∧ tot ly = z) := Lib.hid ⟨hgm, by omega, by rw [htm, htz]⟩
        have HTO : Hid (∀ W rows cl, PS I w W Q ly rows cl → Calls Try.prog 14 #[ptr Q] W fun e w' => e = .returned (.int .i64 z) ∧ Hid (PS I w w' Q ly rows cl)) := Lib.hid (fun W rows cl h => by rw [← HGY.out.2.2]; exact ps_total h HGY.out.1 HGY.out.2.1)
        by_cases he : er = 0
        · subst he
          clear hP hg hll htz hgm hlm htm hre her hly i1 i2 i3
          go_wp2_with fail
          refine HLA.out.mono ?_
          rintro e w5 ⟨a5, n5, c5, rfl, P5⟩
          have HB0 : Hid (Below w.heap.size w w5.drew) := Lib.hid P5.out.below.drew
          have P5D : Hid (PS I w w5.drew Q lx ((.slice a5 n5 c5, lx) :: [(.slice a2 n2 c2, L)]) [⟨Q2, L, .slice a2 n2 c2, L⟩]) := Lib.hid (P5.out.under (Below.refl _ w5).drew)
          obtain ⟨k0, k1, k2⟩ := HPC.out w5 P5.out.below
          go_wp2_with fail
          go_region_held3 (fun X => X.cell? ⟨g, off + i * 3, none⟩ = some (.int .i64 p.src) ∧ X.cell? ⟨g, off + i * 3 + 1, none⟩ = some (.int .i64 p.dst) ∧ X.cell? ⟨g, off + i * 3 + 2, none⟩ = some (.int .i64 p.num))
            (first | exact HPC.out _ HB0.out | exact HPC.out _ P6.out.below)
            (first
              | (go_at_call 19; refine (HMV.out _ _ _ P5D.out).mono ?_; rintro e w6 ⟨rfl, P6⟩))
          all_goals
            go_wp2_with fail
            refine (HTO.out _ _ _ P6.out).mono ?_
            rintro e w7 ⟨rfl, P7⟩
            go_wp2_with fail
            go_roundw
            case rel => exact ⟨i + 1, by go_num, by omega, Lib.hid ⟨ly, P7.out.rest, HGY.out⟩⟩
            case measure => simp [RowKit.intOf]; omega
        · have hne : (er == 0) = false := by simpa using he
          have hnb : (er != 0) = true := by simpa using he
          have hnz : ¬ er = 0 := he
          have hyx := hre he
          subst hyx
          have HLB : Hid (∀ W rows cl, PS I w W Q ly rows cl → Calls Try.prog 13 #[ptr Q] W fun e w' => ∃ a n c, e = .returned (.slice a n c) ∧ Hid (PS I w w' Q ly ((.slice a n c, ly) :: rows) cl)) := Lib.hid (fun W rows cl h => HLI.out W Q ly rows cl h HGY.out.1 HGY.out.2.1)
          have HSA : Hid (∀ W a n c b m d, PS I w W Q ly [(.slice a n c, ly), (.slice b m d, ly), (.slice a2 n2 c2, L)] [⟨Q2, L, .slice a2 n2 c2, L⟩] → Calls Try.prog 12 #[.slice a n c, .slice b m d] W fun e w' => e = .returned (.bool true) ∧ Hid (PS I w w' Q ly [(.slice b m d, ly), (.slice a2 n2 c2, L)] [⟨Q2, L, .slice a2 n2 c2, L⟩])) := Lib.hid (fun W a n c b m d h => pl_same h (by simp) HGY.out.2.1)
          clear hP hg hll htz hgm hlm htm hre her hly i1 i2 i3 he
          go_wp2_with fail
          refine HLA.out.mono ?_
          rintro e w5 ⟨a5, n5, c5, rfl, P5⟩
          have HB0 : Hid (Below w.heap.size w w5.drew) := Lib.hid P5.out.below.drew
          have P5D : Hid (PS I w w5.drew Q ly ((.slice a5 n5 c5, ly) :: [(.slice a2 n2 c2, L)]) [⟨Q2, L, .slice a2 n2 c2, L⟩]) := Lib.hid (P5.out.under (Below.refl _ w5).drew)
          obtain ⟨k0, k1, k2⟩ := HPC.out w5 P5.out.below
          go_wp2_with fail
          go_region_held3 (fun X => X.cell? ⟨g, off + i * 3, none⟩ = some (.int .i64 p.src) ∧ X.cell? ⟨g, off + i * 3 + 1, none⟩ = some (.int .i64 p.dst) ∧ X.cell? ⟨g, off + i * 3 + 2, none⟩ = some (.int .i64 p.num))
            (first | exact HPC.out _ HB0.out | exact HPC.out _ P6.out.below)
            (first
              | (go_at_call 19; refine (HMV.out _ _ _ P5D.out).mono ?_; rintro e w6 ⟨rfl, P6⟩))
          all_goals
            go_wp2_with fail
            refine (HTO.out _ _ _ P6.out).mono ?_
            rintro e w7 ⟨rfl, P7⟩
            go_wp2_with fail
            refine (HLB.out _ _ _ P7.out).mono ?_
            rintro e w8 ⟨a8, n8, c8, rfl, P8⟩
            go_wp2_with fail
            refine (HSA.out _ _ _ _ _ _ _ P8.out).mono ?_
            rintro e w9 ⟨rfl, P9⟩
            go_wp2_with fail
            go_roundw
            case rel => exact ⟨i + 1, by go_num, by omega, Lib.hid ⟨ly, P9.out.rest, HGY.out⟩⟩
            case measure => simp [RowKit.intOf]; omega
      · obtain rfl : i = m := by omega
        have PC := Lib.hid hP.ofClone
        have HLC := Lib.hid (HLI.out wr Q2 L _ _ PC.out HG0.out.1 HG0.out.2)
        have HSA : Hid (∀ W a n c, PS I w W Q2 L [(.slice a n c, L), (.slice a2 n2 c2, L)] [] → Calls Try.prog 12 #[.slice a n c, .slice a2 n2 c2] W fun e w' => e = .returned (.bool true) ∧ Hid (PS I w w' Q2 L [(.slice a2 n2 c2, L)] [])) := Lib.hid (fun W a n c h => pl_same h (by simp) HG0.out.2)
        have HTC : Hid (∀ W rows, PS I w W Q2 L rows [] → Calls Try.prog 14 #[ptr Q2] W fun e w' => e = .returned (.int .i64 z) ∧ Hid (PS I w w' Q2 L rows [])) := Lib.hid (fun W rows h => by rw [← HZ.out]; exact ps_total h HG0.out.1 HG0.out.2)
        clear hP hg hll htz
        go_wp2_with fail
        refine HLC.out.mono ?_
        rintro e w5 ⟨a5, n5, c5, rfl, P5⟩
        go_wp2_with fail
        refine (HSA.out _ _ _ _ P5.out).mono ?_
        rintro e w6 ⟨rfl, P6⟩
        go_wp2_with fail
        refine (HTC.out _ _ P6.out).mono ?_
        rintro e w7 ⟨rfl, P7⟩
        go_wp2_with fail
        refine (HAW.out _ P7.out.below).mono ?_
        rintro e w8 ⟨rfl, B8⟩
        go_wp2_with fail
        go_ret
        exact ⟨rfl, B8.out⟩
  · have HLD := Lib.hid (hno h0)
    obtain ⟨er, her⟩ : ∃ er, loadE l = er := ⟨_, rfl⟩
    rw [her] at HLD h0
    have hne : (er == 0) = false := by simpa using h0
    have hnb : (er != 0) = true := by simpa using h0
    have hnz : ¬ er = 0 := h0
    clear hl hs hi hm hx hix hyes hno h0 h8 h20 her
    go_enter Try.func5, Try.ntmps5
    go_wp2_with fail
    refine HLD.out.mono ?_
    rintro e w1 ⟨rfl, B1⟩
    go_wp2_with fail
    refine (HAW.out w1 B1.out).mono ?_
    rintro e w5 ⟨rfl, B5⟩
    go_wp2_with fail
    go_ret
    exact ⟨rfl, B5.out⟩
end Go.Proofs.Yteglahogimdnfaa.Purse
