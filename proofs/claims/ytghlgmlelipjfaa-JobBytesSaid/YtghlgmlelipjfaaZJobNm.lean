/- The program's numbers of a job: what is put, one behind the other. -/
import Derived.Test.YtghlgmlelipjfaaZJobByt
import Derived.Test.YtghlgmlelipjfaaZPrRDone
import Derived.Test.YtghlgmlelipjfaaZJobTk
import Derived.BigRegion
namespace Go.Proofs.Ytghlgmlelipjfaa.Job.Im
open Go.RowKit Go.Lib IRows
open Goods (St Sts OwnS)

theorem own_kept {w w' : World} {B : Nat} {e T : TypeId} {size n U : Nat} {v : Value} {xs : List Value} {cs : Array Value} (h : w.ownsRow B e size v n xs) (hg : w.grownBy w' v.ownBlock) (hU : w.heap[U]? = some (.cells cs T (0, 0))) (hT : T ≠ e) : w'.heap[U]? = some (.cells cs T (0, 0)) := grown_block hg hU fun e1 => by
  obtain ⟨_, _, cur, h3⟩ := own_type h e1
  rw [hU] at h3
  injection h3 with h3
  injection h3 with _ h4
  exact hT h4
theorem own_low {w w' : World} {B : Nat} {e : TypeId} {size n : Nat} {v : Value} {xs : List Value} (h : w.ownsRow B e size v n xs) (hg : w.grownBy w' v.ownBlock) (hB : B ≤ w.heap.size) : Below B w w' := (Below.refl B w).grown hg hB fun k hk => (h.lt k hk).1
theorem box_st (w : World) (t : St) : ∃ S Z, w.heap.size = S ∧ w.alloc (.cells #[.int .i64 t.kind, .int .i64 t.qty] 74) = Z ∧ Z.cell? ⟨S, 0, none⟩ = some (.int .i64 t.kind) ∧ Z.cell? ⟨S, 1, none⟩ = some (.int .i64 t.qty) ∧ Hid (Below w.heap.size w Z) :=
  ⟨_, _, rfl, rfl, cell_block (j := 0) (heap_alloc_new w _) rfl, cell_block (j := 1) (heap_alloc_new w _) rfl, Lib.hid ((Below.refl _ w).alloc (Nat.le_refl _) _)⟩
theorem block_at {w w' : World} {U : Nat} {o : Obj} (h : w.heap[U]? = some o) (hb : Below w.heap.size w w') : w'.heap[U]? = some o := (hb.block U (Array.getElem?_eq_some_iff.1 h).1).trans h
theorem ks_len {w : World} {B : Nat} {a : Option Addr} {m c : Nat} {o : List Int} (h : KS w B (.slice a m c) o) : o.length = m := by
  obtain ⟨a', c', e, _⟩ := h.at
  injection e with _ e2 _
  exact e2.symm
theorem app_ks (W : World) {B : Nat} {a : Option Addr} {m c : Nat} {o : List Int} (xs : List Int) (cs : Array Value) (k : Nat) (hcs : cs.toList = xs.map (Value.int .i64)) (hk : xs.length = k) (h : KS W B (.slice a m c) o) (hm : m ≤ 1048576) (hk2 : k ≤ 1048576) (hB : B ≤ W.heap.size) :
    ∃ a' c' W', Hid ((Builtin.append_ #[52, 52] 52 #[.slice a m c, .slice (some ⟨W.heap.size, 0, none⟩) k k]).run Try.prog (W.alloc (.cells cs 3)) = .ok (.slice a' (m + k) c') W') ∧ KS W' B (.slice a' (m + k) c') (o ++ xs) ∧ W.grownBy W' (Value.slice a m c).ownBlock := by
  have hl := ks_len h
  obtain ⟨i0, hi, hz0, hz1, hz2⟩ := info_parts info_int
  have hA : KS (W.alloc (.cells cs 3)) B (.slice a m c) o := h.alloc _
  have hb := (Below.refl W.heap.size W).alloc (Nat.le_refl _) (.cells cs 3)
  obtain ⟨v2, W3, r2, o2, b2⟩ := app_any (P := Try.prog) (t := 52) (e := 3) (i := i0) (W.alloc (.cells cs 3)) B 52 (.int .i64 0) 1 8 Try.underlying52 hi hz0 hz1 hz2 rfl (by omega) _ o.length (o.map (Value.int .i64)) hA (some ⟨W.heap.size, 0, none⟩) k k (xs.map (Value.int .i64)) (by rw [List.length_map, hk]; omega) (fun j u hj => ⟨_, rfl, by
    have hblk := heap_alloc_new W (.cells cs 3)
    rw [addr_add, Nat.zero_add]
    refine cell_block (j := j) hblk ?_
    rw [← Array.getElem?_toList, hcs]
    exact hj⟩) (fun u hu => by
      obtain ⟨x, _, rfl⟩ := List.mem_map.1 hu
      rfl) (by unfold maxLen; omega) (by omega) (Nat.le_trans hB hb.size)
  have e3 : o.map (Value.int .i64) ++ xs.map (Value.int .i64) = (o ++ xs).map (Value.int .i64) := (List.map_append ..).symm
  have e4 : o.length + k = (o ++ xs).length := by rw [List.length_append, hk]
  rw [e3, e4] at o2
  obtain ⟨a2, c2, rfl, _⟩ := KS.at (w := W3) (B := B) (l := o ++ xs) o2
  have e : (o ++ xs).length = m + k := by rw [List.length_append, hl, hk]
  have hg : W.grownBy W3 (Value.slice a m c).ownBlock :=
    ⟨b2.os.trans hb.os, b2.tape.trans hb.tape, b2.output.trans hb.output, Nat.le_trans hb.size b2.size, fun q hq hr => (b2.block q (Nat.lt_of_lt_of_le hq hb.size) hr).trans (hb.block q hq)⟩
  rw [e] at r2 o2
  exact ⟨a2, c2, W3, Lib.hid r2, by show World.ownsRow _ _ _ _ _ _ _; rw [e]; exact o2, hg⟩
def Gat (X w : World) (v : Value) (o : List Int) : Prop := KS w X.heap.size v o ∧ Below X.heap.size X w
theorem Gat.under {X w w' : World} {v : Value} {o : List Int} (h : Gat X w v o) (hb : Below w.heap.size w w') : Gat X w' v o := ⟨h.1.under hb, below_then h.2 hb⟩
theorem Gat.app {X W : World} {a : Option Addr} {m c : Nat} {o : List Int} (h : Gat X W (.slice a m c) o) (xs : List Int) (cs : Array Value) (k : Nat) (hcs : cs.toList = xs.map (Value.int .i64)) (hk : xs.length = k) (hm : m ≤ 1000) (hk2 : k ≤ 10) :
    ∃ a' c' W', Hid ((Builtin.append_ #[52, 52] 52 #[.slice a m c, .slice (some ⟨W.heap.size, 0, none⟩) k k]).run Try.prog (W.alloc (.cells cs 3)) = .ok (.slice a' (m + k) c') W') ∧ Hid (Gat X W' (.slice a' (m + k) c') (o ++ xs)) ∧ Hid (∀ (U : Nat) (ds : Array Value) (T : TypeId), W.heap[U]? = some (.cells ds T (0, 0)) → T ≠ 3 → W'.heap[U]? = some (.cells ds T (0, 0))) := by
  obtain ⟨a2, c2, W2, hr, ho, hg⟩ := app_ks W xs cs k hcs hk h.1 (by omega) (by omega) h.2.size
  exact ⟨a2, c2, W2, hr, Lib.hid ⟨ho, h.2.trans (own_low h.1 hg h.2.size)⟩, Lib.hid fun U ds T hU hT => own_kept h.1 hg hU hT⟩
set_option maxRecDepth 100000 in
set_option maxHeartbeats 16000000 in
theorem numbers_im (j : JS) (a : Option Addr) (n c : Nat) (w : World) (h : JIn w a n j.s) (hn : n ≤ 12) :
    Calls Try.prog 34 #[jV j (.slice a n c)] w fun e w' => ∃ a' m c', e = .returned (.slice a' m c') ∧ Hid ((ints j).length = m ∧ m ≤ 1000 ∧ KS w' w.heap.size (.slice a' m c') (ints j) ∧ Below w.heap.size w w') := by
  obtain ⟨V, X, hV, hX, HXB, HH⟩ := box_jo w j (.slice a n c)
  have HP : Hid (∀ W, Below X.heap.size X W → Has W V j (.slice a n c)) := Lib.hid fun W hW => has_under HH.out hW
  obtain ⟨k0, k1, k2, k3, k4, k5, k6, k7, k8, k9, k10, k11, k12, k13, k14, k15⟩ := jo_at HH.out
  have HT := Goods.sts_at (h.under HXB.out.1).2
  have HL := Lib.hid h.1
  have hn2 : (n : Int) ≤ 12 := by omega
  obtain ⟨G, hG⟩ : ∃ G, X.heap.size = G := ⟨_, rfl⟩
  obtain ⟨X1, hX1⟩ : ∃ X1, X.alloc (.cells #[.int .i64 j.id, .int .i64 j.kd, .int .i64 j.ow, .int .i64 j.dv, .int .i64 j.pb, .int .i64 j.ba, .int .i64 j.dr, .int .i64 j.rn, .int .i64 j.cp, .int .i64 j.tm, .int .i64 j.fe, .int .i64 (n : Int)] 3) = X1 := ⟨_, rfl⟩
  have HG1 : Hid (Gat X X1 (.slice (some ⟨G, 0, none⟩) 12 12) ([j.id, j.kd, j.ow, j.dv, j.pb, j.ba, j.dr, j.rn, j.cp, j.tm, j.fe, (n : Int)] ++ intsS (j.s.take 0))) := Lib.hid ⟨by
    rw [← hX1, ← hG]
    exact World.ownsRow_lit X #[.int .i64 j.id, .int .i64 j.kd, .int .i64 j.ow, .int .i64 j.dv, .int .i64 j.pb, .int .i64 j.ba, .int .i64 j.dr, .int .i64 j.rn, .int .i64 j.cp, .int .i64 j.tm, .int .i64 j.fe, .int .i64 (n : Int)] 12 (Nat.le_refl _) (by unfold maxLen; omega) rfl, by rw [← hX1]; exact (Below.refl _ X).alloc (Nat.le_refl _) _⟩
  have z11 : X1.cell? ⟨V, 11, none⟩ = some (.slice a n c) := cell_block (j := 11) (HP.out X1 HG1.out.2) rfl
  obtain ⟨L, hL⟩ : ∃ L, [j.id, j.kd, j.ow, j.dv, j.pb, j.ba, j.dr, j.rn, j.cp, j.tm, j.fe, (n : Int)] = L := ⟨_, rfl⟩
  rw [hL] at HG1
  have HI : Hid (ints j = L ++ intsS j.s ++ [j.st, j.sr, j.en, j.lf]) := Lib.hid (by
    rw [← hL]
    unfold ints front back
    rw [h.1]
    simp only [List.append_assoc]
    rfl)
  clear h hn hL
  go_enter Try.func34, Try.ntmps34
  go_wp2_with fail
  clear hX hV hG hX1 k0 k1 k2 k3 k4 k5 k6 k7 k8 k9 k10 k11 k12 k13 k14 k15 z11
  go_loopw [3, 35] (fun v t wr => ∃ (i m : Nat) (a1 : Option Addr) (c1 : Nat), v = .slice a1 m c1 ∧ t = .int .i64 (i : Int) ∧ i ≤ n ∧ Hid (m ≤ 12 + 2 * i) ∧ Hid (Gat X wr (.slice a1 m c1) (L ++ intsS (j.s.take i)))) (fun _ t _ => n - (RowKit.intOf t).toNat)
  case atStart => exact ⟨0, 12, some ⟨G, 0, none⟩, 12, rfl, rfl, by omega, Lib.hid (by omega), HG1⟩
  case round =>
    clear HG1
    obtain ⟨i, m, a3, c3, rfl, rfl, hi, HJ, HO⟩ := hrel
    obtain ⟨W0, rfl⟩ : ∃ W0, W0 = wr := ⟨_, rfl⟩
    have hi0 : (0 : Int) ≤ (i : Int) := by omega
    by_cases hlt : i < n
    · have hlt2 : (i : Int) < (n : Int) := by omega
      have wi : IntKind.i64.wrap ((i : Int) + 1) = (i : Int) + 1 := IntWalk.i64_in _ (by omega)
      obtain ⟨g2, off2, t, hsa, hts, z0, z1⟩ := HT.out W0 i HO.out.2 (by rw [HL.out]; exact hlt)
      obtain ⟨S, Z, hS, hZ, s0, s1, HZ⟩ := box_st W0 t
      obtain ⟨a4, c4, W4, HR4, HO4, HK4⟩ := (HO.out.under HZ.out).app [t.kind, t.qty] #[.int .i64 t.kind, .int .i64 t.qty] 2 rfl rfl (by have := HJ.out; omega) (by omega)
      have HO5 : Hid (Gat X W4 (.slice a4 (m + 2) c4) (L ++ intsS (j.s.take (i + 1)))) := Lib.hid (by
        rw [intsS_take hts.out, ← List.append_assoc]
        exact HO4.out)
      clear HO4 HK4
      rw [hsa]
      clear hsa
      go_wp2_with (at_builtin; refine walk_run (v' := .slice a4 (m + 2) c4) (w' := W4) rfl _ _ _ _ rfl _ _ rfl rfl ?_ ?_; exact HR4.out)
      clear hS hZ s0 s1 z0 z1
      go_roundw
      case rel => exact ⟨i + 1, m + 2, a4, c4, rfl, by go_num, by omega, Lib.hid (by have := HJ.out; omega), HO5⟩
      case measure => simp [RowKit.intOf]; omega
    · obtain rfl : i = n := by omega
      obtain ⟨k0, k1, k2, k3, k4, k5, k6, k7, k8, k9, k10, k11, k12, k13, k14, k15⟩ := jo_at (HP.out W0 HO.out.2)
      obtain ⟨a4, c4, W4, HR4, HO4, HK4⟩ := HO.out.app [j.st, j.sr, j.en, j.lf] #[.int .i64 j.st, .int .i64 j.sr, .int .i64 j.en, .int .i64 j.lf] 4 rfl rfl (by have := HJ.out; omega) (by omega)
      have HO5 : Hid (Gat X W4 (.slice a4 (m + 4) c4) (ints j)) := Lib.hid (by
        have h1 := HO4.out
        rw [List.take_of_length_le (by rw [HL.out]; exact Nat.le_refl _)] at h1
        rw [HI.out]
        exact h1)
      clear HO4 HK4
      go_wp2_with (at_builtin; refine walk_run (v' := .slice a4 (m + 4) c4) (w' := W4) rfl _ _ _ _ rfl _ _ rfl rfl ?_ ?_; exact HR4.out)
      go_ret
      exact ⟨a4, m + 4, c4, rfl, Lib.hid ⟨ks_len HO5.out.1, by have := HJ.out; omega, World.ownsRow.mono HO5.out.1 HXB.out.1.size, below_then HXB.out.1 HO5.out.2⟩⟩
end Go.Proofs.Ytghlgmlelipjfaa.Job.Im
