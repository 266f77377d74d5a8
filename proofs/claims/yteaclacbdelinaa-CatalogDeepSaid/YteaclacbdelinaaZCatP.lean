/- The law on a row of types, each made of the one ahead. -/
import Derived.Test.YteaclacbdelinaaZCatO
namespace Go.Proofs.Yteaclacbdelinaa.Cat
open Go.RowKit Go.Lib
open Goods (St Sts OwnS)
open Recipe (BlIn blV)
open Graph (Nd Nds OwnN)

def lnk (k s : Int) : PB := ⟨k, 1, 1, [⟨s, 1⟩], 0, 0, 1⟩
def chn : Nat → List PB
  | 0 => []
  | i + 1 => chn i ++ [lnk ((i : Int) + 2) ((i : Int) + 1)]
theorem chn_length : ∀ i, (chn i).length = i
  | 0 => rfl
  | i + 1 => by rw [chn, List.length_append, chn_length i]; rfl
theorem chn_mem : ∀ {i : Nat} {b : PB}, b ∈ chn i → ∃ j : Nat, j < i ∧ b = lnk ((j : Int) + 2) ((j : Int) + 1)
  | 0, b, h => by cases h
  | i + 1, b, h => by
    rw [chn] at h
    rcases List.mem_append.1 h with h | h
    · obtain ⟨j, hj, e⟩ := chn_mem h
      exact ⟨j, by omega, e⟩
    · exact ⟨i, by omega, List.mem_singleton.1 h⟩
theorem lnk_ok {k s ty : Int} (h0 : 0 ≤ ty) (h1 : ty ≤ 32) (h2 : 1 ≤ k) (h3 : k ≤ ty) (h4 : 1 ≤ s) (h5 : s ≤ ty) (h6 : s ≠ k) : Recipe.BlOk (lnk k s).b ty := by
  have h := one_listed h4 h5 h6
  refine ⟨⟨h0, h1⟩, ⟨h2, h3⟩, ⟨?_, ?_⟩, ⟨?_, ?_⟩, ⟨?_, ?_⟩, ⟨?_, ?_⟩, ⟨?_, ?_⟩, h.1, h.2⟩ <;> simp [lnk, PB.b]
def pt (T : Nat) (l : List PB) : Cat := ⟨(T : Int), l, 1, [], 1, ⟨0, 0, 0⟩⟩
theorem pt_ok {T : Nat} {l : List PB} (hT : T ≤ 16) (h1 : 1 ≤ T) (hl : l.length ≤ 16) (h : ∀ b ∈ l, ∃ k s : Int, b = lnk k s ∧ 1 ≤ k ∧ k ≤ T ∧ 1 ≤ s ∧ s ≤ T ∧ s ≠ k) : CatOk (pt T l) ∧ Graph.May (T : Int) (ndL l) := by
  have hlen : ∀ l : List PB, (∀ b ∈ l, ∃ k s : Int, b = lnk k s ∧ 1 ≤ k ∧ k ≤ T ∧ 1 ≤ s ∧ s ≤ T ∧ s ≠ k) → (ndL l).length = l.length := fun l => by
    induction l with
    | nil => intro _; rfl
    | cons b l ih =>
      intro h
      have h2 := ih fun x hx => h x (List.mem_cons_of_mem _ hx)
      obtain ⟨k, s, rfl, _⟩ := h b (List.mem_cons_self ..)
      show (nd1 _ _ ++ ndL l).length = _
      rw [List.length_append, h2, nd1_length, List.length_cons]
      simp [lnk]
      omega
  refine ⟨⟨⟨⟨?_, ?_⟩, ⟨?_, ?_⟩, ⟨?_, ?_⟩, hl, ?_, ?_⟩, fun b hb => ?_, fun y hy => ?_⟩, ⟨⟨by omega, by omega⟩, by rw [hlen l h]; omega, fun t ht => ?_⟩⟩
  · show (1 : Int) ≤ (T : Int)
    omega
  · show (T : Int) ≤ 32
    omega
  · show (1 : Int) ≤ 1
    omega
  · show (1 : Int) ≤ 8
    omega
  · show (1 : Int) ≤ 1
    omega
  · show (1 : Int) ≤ 16
    omega
  · show 0 ≤ 8
    omega
  · simp [pt, Fee.FeeOk]
  · obtain ⟨k, s, rfl, h2, h3, h4, h5, h6⟩ := h b hb
    exact lnk_ok (by show (0 : Int) ≤ (T : Int); omega) (by show (T : Int) ≤ 32; omega) h2 h3 h4 h5 h6
  · cases hy
  · unfold ndL at ht
    obtain ⟨b, hb, hm⟩ := List.mem_flatMap.1 ht
    obtain ⟨k, s, rfl, h2, h3, h4, h5, h6⟩ := h b hb
    simp [nd1, lnk] at hm
    subst hm
    exact ⟨⟨h2, h3⟩, h4, h5⟩
theorem chn_ways (T : Nat) : ∀ b ∈ chn (T - 1), ∃ k s : Int, b = lnk k s ∧ 1 ≤ k ∧ k ≤ T ∧ 1 ≤ s ∧ s ≤ T ∧ s ≠ k := fun b hb => by
  obtain ⟨j, hj, rfl⟩ := chn_mem hb
  exact ⟨_, _, rfl, by omega, by omega, by omega, by omega, by omega⟩
theorem chn_eval : ∀ m < 15, gC ((m + 2 : Nat) : Int) (ndL (chn (m + 1))) = (if 9 < m + 2 then 5 else 0) ∧ gC ((m + 2 : Nat) : Int) (ndL (chn (m + 1) ++ [lnk 1 ((m + 2 : Nat) : Int)])) = 9 := by decide +kernel
theorem pt_plain {T : Nat} (h2 : 2 ≤ T) (hT : T ≤ 16) : chkC (pt T (chn (T - 1))) = if 9 < T then 5 else 0 := by
  obtain ⟨h, hm⟩ := pt_ok (l := chn (T - 1)) hT (by omega) (by rw [chn_length]; omega) (chn_ways T)
  rw [chk_gC h hm]
  obtain ⟨m, rfl⟩ : ∃ m, T = m + 2 := ⟨T - 2, by omega⟩
  exact (chn_eval m (by omega)).1
theorem pt_round {T : Nat} (h2 : 2 ≤ T) (hT : T ≤ 16) : chkC (pt T (chn (T - 1) ++ [lnk 1 (T : Int)])) = 9 := by
  obtain ⟨h, hm⟩ := pt_ok (l := chn (T - 1) ++ [lnk 1 (T : Int)]) hT (by omega) (by rw [List.length_append, chn_length]; simp; omega) (fun b hb => by
    rcases List.mem_append.1 hb with hb | hb
    · exact chn_ways T b hb
    · rw [List.mem_singleton.1 hb]
      exact ⟨_, _, rfl, by omega, by omega, by omega, by omega, by omega⟩)
  rw [chk_gC h hm]
  obtain ⟨m, rfl⟩ : ∃ m, T = m + 2 := ⟨T - 2, by omega⟩
  exact (chn_eval m (by omega)).2
theorem some_types (n : Int) (h0 : 0 ≤ n) (h : n ≤ 255) : ∃ (t : Int) (T : Nat), IntKind.i64.wrap n = n ∧ n.tmod 15 = t ∧ IntKind.i64.wrap t = t ∧ IntKind.i64.wrap (2 + t) = (T : Int) ∧ 2 ≤ T ∧ T ≤ 16 := by
  have e : n.tmod 15 = n % 15 := Int.tmod_eq_emod_of_nonneg h0
  refine ⟨n % 15, (2 + n % 15).toNat, IntWalk.i64_in _ (by omega), e, IntWalk.i64_in _ (by omega), ?_, by omega, by omega⟩
  rw [IntWalk.i64_in _ (by omega)]
  omega
/-- A catalogue that is filled blueprint by blueprint. -/
structure Fill (X w : World) (K : Nat) (c : Array Value) (v : Value) (bs : List Recipe.Bl) : Prop where
  below : Below X.heap.size X w
  here : X.heap.size ≤ K
  blk : w.heap[K]? = some (.cells c 27 (0, 0))
  own : OwnB w (K + 1) v bs
  needs : NeedsAt w (K + 1) bs
theorem Fill.more {X w : World} {K : Nat} {cs : Array Value} {a : Option Addr} {m c : Nat} {bs : List Recipe.Bl} (k s : Int) (h : Fill X w K cs (.slice a m c) bs) (hm : m ≤ 1000) :
    ∃ a' c' W', Hid ((Builtin.append_ #[22, 22] 22 #[.slice a m c, .slice (some ⟨w.heap.size + 1, 0, none⟩) 1 1]).run Try.prog ((w.alloc (.cells #[.int .i64 s, .int .i64 1] 54)).alloc (.cells #[.int .i64 k, .int .i64 1, .int .i64 1, .slice (some ⟨w.heap.size, 0, none⟩) 1 1, .int .i64 0, .int .i64 0, .int .i64 1] 35)) = .ok (.slice a' (m + 1) c') W') ∧ Hid (Fill X W' K cs (.slice a' (m + 1) c') (bs ++ [⟨k, 1, 1, some ⟨w.heap.size, 0, none⟩, 1, 1, [⟨s, 1⟩], 0, 0, 1⟩])) := by
  obtain ⟨Y, hY⟩ : ∃ Y, w.alloc (.cells #[.int .i64 s, .int .i64 1] 54) = Y := ⟨_, rfl⟩
  rw [hY]
  have hb : Below w.heap.size w Y := by rw [← hY]; exact (Below.refl _ w).alloc (Nat.le_refl _) _
  have hst : Y.heap[w.heap.size]? = some (.cells #[.int .i64 s, .int .i64 1] 54 (0, 0)) := by rw [← hY]; exact heap_alloc_new w _
  have hK : K < w.heap.size := (Array.getElem?_eq_some_iff.1 h.blk).1
  have ho : OwnB Y (K + 1) (.slice a m c) bs := Goods.own_under h.own hb
  have hsz := hb.size
  obtain ⟨a2, c2, W2, hr, ho2, hg⟩ := app_b Y ⟨k, 1, 1, some ⟨w.heap.size, 0, none⟩, 1, 1, [⟨s, 1⟩], 0, 0, 1⟩ ho (by omega) (by omega)
  have hs1 : Y.heap.size = w.heap.size + 1 := by rw [← hY]; simp
  rw [hs1] at hr
  have hkB : Y.heap[K]? = some (.cells cs 27 (0, 0)) := (hb.block K hK).trans h.blk
  refine ⟨a2, c2, W2, hr, Lib.hid ⟨?_, h.here, grown_block hg hkB (fun e => ?_), ho2, fun x hx => ?_⟩⟩
  · have hy := below_then h.below hb
    refine ⟨hg.os.trans hy.os, hg.tape.trans hy.tape, hg.output.trans hy.output, Nat.le_trans hy.size hg.size, fun i hi => (hg.block i (Nat.lt_of_lt_of_le hi hy.size) (fun e => ?_)).trans (hy.block i hi)⟩
    have h1 := (own_type ho e.symm).1
    have h2 := h.here
    omega
  · have h1 := (own_type ho e).1
    omega
  · have hfar : ∀ g cur, (Value.slice a m c).ownBlock = some g → ¬ Y.heap[g]? = some (.cells cur 54 (0, 0)) := fun g cur e h3 => by
      obtain ⟨_, _, c4, h4⟩ := own_type ho e
      rw [h4] at h3
      injection h3 with h3
      injection h3 with _ hT
      exact absurd hT (by decide)
    rcases List.mem_append.1 hx with hx | hx
    · exact own_by (Goods.own_under (h.needs x hx) hb) hg fun g cur e h3 => absurd h3 (hfar g cur e)
    · rw [List.mem_singleton.1 hx]
      have hs : OwnS Y (K + 1) (.slice (some ⟨w.heap.size, 0, none⟩) 1 1) [⟨s, 1⟩] := ⟨rfl, .inr ⟨_, 1, _, rfl, by omega, hst, by show 1 ≤ 1; omega, by unfold maxLen; omega, rfl, rfl⟩⟩
      exact own_by hs hg fun g cur e h3 => absurd h3 (hfar g cur e)
theorem Fill.set {X w : World} {K : Nat} {cs : Array Value} {v : Value} {bs : List Recipe.Bl} (h : Fill X w K cs v bs) (j : Nat) (u : Value) : Fill X (w.setCell ⟨K, j, none⟩ u) K (cs.setIfInBounds j u) v bs := by
  have hg : w.grownBy (w.setCell ⟨K, j, none⟩ u) (some K) := only_setCell (only_refl w (some K)) j u
  exact ⟨below_of_only h.below h.here hg, h.here, heap_setCell_same w K j _ _ u h.blk, own_set h.own j u (by omega), fun b hb => own_set (h.needs b hb) j u (by omega)⟩
theorem Fill.fit {X w : World} {K T : Nat} {cs : Array Value} {a : Option Addr} {m c : Nat} {bs : List Recipe.Bl} {l : List PB} (h : Fill X w K cs (.slice a m c) bs) (hp : bs.map pOf = l) (hm : m ≤ 16) (hT : T ≤ 16) (hl : ∀ b ∈ l, ∃ k s : Int, b = lnk k s ∧ 1 ≤ k ∧ k ≤ T ∧ 1 ≤ s ∧ s ≤ T ∧ s ≠ k) :
    Fit w ⟨(T : Int), a, m, c, bs, 1, none, 0, 0, [], 1, ⟨0, 0, 0⟩⟩ := by
  obtain ⟨q1, q2⟩ := blues_own h.own
  have hone : ∀ b ∈ bs, ∃ k s : Int, pOf b = lnk k s ∧ 1 ≤ k ∧ k ≤ T ∧ 1 ≤ s ∧ s ≤ T ∧ s ≠ k := fun b hb => hl (pOf b) (by rw [← hp]; exact List.mem_map.2 ⟨b, hb, rfl⟩)
  have hsm : ∀ b ∈ bs, b.s.length = b.sm ∧ Sts w b.sa b.s := fun b hb => by
    obtain ⟨a', c', e, q⟩ := Goods.sts_own (h.needs b hb)
    injection e with e1 e2 _
    subst e1
    exact ⟨e2.symm, q⟩
  refine ⟨⟨⟨q1, q2, hsm⟩, rfl, fun i y hi => by simp at hi⟩, ⟨fun b hb => ?_, by show m ≤ 20; omega, by show 0 ≤ 12; omega⟩, ⟨by show I64 (T : Int); unfold I64; omega, fun b hb => ?_, by show I64 1; simp [I64], fun y hy => (by cases hy), by show I64 1; simp [I64], by show I64 0; simp [I64], by show I64 0; simp [I64], by show I64 0; simp [I64]⟩⟩
  · obtain ⟨k, s, e, _⟩ := hone b hb
    have h1 : b.s = [⟨s, 1⟩] := congrArg (fun x : PB => x.s) e
    have h2 := (hsm b hb).1
    rw [h1] at h2
    simp at h2
    omega
  · obtain ⟨k, s, e, k1, k2, s1, s2, _⟩ := hone b hb
    have e1 : b.ot = k := congrArg (fun x : PB => x.ot) e
    have e2 : b.per = 1 := congrArg (fun x : PB => x.per) e
    have e3 : b.tm = 1 := congrArg (fun x : PB => x.tm) e
    have e4 : b.cp = 0 := congrArg (fun x : PB => x.cp) e
    have e5 : b.st = 0 := congrArg (fun x : PB => x.st) e
    have e6 : b.mo = 1 := congrArg (fun x : PB => x.mo) e
    have e7 : b.s = [⟨s, 1⟩] := congrArg (fun x : PB => x.s) e
    refine ⟨by rw [e1]; unfold I64; omega, by rw [e2]; simp [I64], by rw [e3]; simp [I64], by rw [e4]; simp [I64], by rw [e5]; simp [I64], by rw [e6]; simp [I64], fun t ht => ?_⟩
    rw [e7] at ht
    simp at ht
    subst ht
    exact ⟨by show I64 s; unfold I64; omega, by show I64 1; simp [I64]⟩

open Classical in
set_option maxRecDepth 100000 in
set_option maxHeartbeats 8000000 in
theorem catalogDeep_in (I : Impl) (n : Int) (r : Bool) (w : World) (hn : 0 ≤ n ∧ n ≤ 255) :
    Calls Try.prog 5 #[.int .u8 n, .bool r] w fun e w' => e = .returned (.bool true) ∧ Below w.heap.size w w' := by
  obtain ⟨t, T, e1, e2, e3, e4, hT2, hT16⟩ := some_types n hn.1 hn.2
  have hn0 := hn.1
  have hn1 := hn.2
  have hT3 : (2 : Int) ≤ (T : Int) := by omega
  have hT4 : (T : Int) ≤ 16 := by omega
  have HC : Hid (∀ W (a : Option Addr) (m c : Nat) (bs : List Recipe.Bl) (l : List PB) (z : Int), Fit W ⟨(T : Int), a, m, c, bs, 1, none, 0, 0, [], 1, ⟨0, 0, 0⟩⟩ → bs.map pOf = l → chkC (pt T l) = z → Calls Try.prog 14 #[.agg #[.int .i64 (T : Int), .slice a m c, .int .i64 1, .slice none 0 0, .int .i64 1, .int .i64 0, .int .i64 0, .int .i64 0]] W fun e w' => e = .returned (.int .i64 z) ∧ Hid (Below W.heap.size W w')) := Lib.hid fun W a m c bs l z hf hp hz => by
    subst hp
    have := I.check ⟨(T : Int), a, m, c, bs, 1, none, 0, 0, [], 1, ⟨0, 0, 0⟩⟩ W hf
    have e : chkC (CM.p ⟨(T : Int), a, m, c, bs, 1, none, 0, 0, [], 1, ⟨0, 0, 0⟩⟩) = z := hz
    rw [e] at this
    exact this.mono fun _ _ ⟨e, h⟩ => ⟨e, Lib.hid h⟩
  clear hn
  go_enter Try.func5, Try.ntmps5
  go_upto_region 3 with fail
  obtain ⟨K, hK⟩ : ∃ K, w.heap.size = K := ⟨_, rfl⟩
  obtain ⟨X, hX⟩ : ∃ X, w.alloc (.cells #[.int .i64 (T : Int), .slice none 0 0, .int .i64 1, .slice none 0 0, .int .i64 1, .int .i64 0, .int .i64 0, .int .i64 0] 27) = X := ⟨_, rfl⟩
  have HF0 : Hid (Fill w X K #[.int .i64 (T : Int), .slice none 0 0, .int .i64 1, .slice none 0 0, .int .i64 1, .int .i64 0, .int .i64 0, .int .i64 0] (.slice none 0 0) []) := Lib.hid ⟨by rw [← hX]; exact (Below.refl _ w).alloc (Nat.le_refl _) _, by rw [hK]; exact Nat.le_refl _, by rw [← hX, ← hK]; exact heap_alloc_new w _, World.ownsRow_nil _ _ _ _, fun b hb => by cases hb⟩
  rw [hX, hK]
  clear hX hK e1 e2 e3 e4 hn0 hn1
  go_wp2_with fail
  go_loopw [7] (fun t wr => ∃ (i : Nat) (a : Option Addr) (c : Nat) (bs : List Recipe.Bl), t = .int .i64 ((i : Int) + 2) ∧ i + 1 ≤ T ∧ Hid (Fill w wr K #[.int .i64 (T : Int), .slice a i c, .int .i64 1, .slice none 0 0, .int .i64 1, .int .i64 0, .int .i64 0, .int .i64 0] (.slice a i c) bs) ∧ Hid (bs.map pOf = chn i)) (fun t _ => T + 2 - (RowKit.intOf t).toNat)
  case atStart => exact ⟨0, none, 0, [], rfl, by omega, HF0, Lib.hid rfl⟩
  case round =>
    clear HF0
    obtain ⟨i, a, c, bs, rfl, hi, HF, HB⟩ := hrel
    obtain ⟨W0, rfl⟩ : ∃ W0, W0 = wr := ⟨_, rfl⟩
    have hi0 : (0 : Int) ≤ (i : Int) := by omega
    have hi9 : (i : Int) ≤ 16 := by omega
    obtain ⟨⟨k0, k1, k2, k3, k4, k5, k6, k7⟩, f0, f1, f2, f3, f4, f5, f6, f7⟩ := blk8 HF.out.blk
    by_cases hlt : i + 2 ≤ T
    · have d1 : decide ((i : Int) + 2 ≤ (T : Int)) = true := decide_eq_true (by omega)
      have w1 : IntKind.i64.wrap ((i : Int) + 2 - 1) = (i : Int) + 1 := by rw [show (i : Int) + 2 - 1 = (i : Int) + 1 by omega]; exact IntWalk.i64_in _ (by omega)
      have w2 : IntKind.i64.wrap ((i : Int) + 2 + 1) = (i : Int) + 2 + 1 := IntWalk.i64_in _ (by omega)
      obtain ⟨a2, c2, W2, HR, HF2⟩ := HF.out.more ((i : Int) + 2) ((i : Int) + 1) (by omega)
      obtain ⟨⟨q0, q1, q2, q3, q4, q5, q6, q7⟩, g0, g1, g2, g3, g4, g5, g6, g7⟩ := blk8 HF2.out.blk
      have HB2 : Hid ((bs ++ [(⟨(i : Int) + 2, 1, 1, some ⟨W0.heap.size, 0, none⟩, 1, 1, [⟨(i : Int) + 1, 1⟩], 0, 0, 1⟩ : Recipe.Bl)]).map pOf = chn (i + 1)) := Lib.hid (by rw [List.map_append, HB.out]; rfl)
      go_wp2_with (at_builtin; refine walk_run (v' := .slice a2 (i + 1) c2) (w' := W2) rfl _ _ _ _ rfl _ _ rfl rfl ?_ ?_; exact HR.out)
      go_roundw
      case rel => exact ⟨i + 1, a2, c2, _, by go_num, by omega, Lib.hid (HF2.out.set 1 _), HB2⟩
      case measure => simp [RowKit.intOf]; omega
    · have hiT : i = T - 1 := by omega
      have d1 : decide ((i : Int) + 2 ≤ (T : Int)) = false := decide_eq_false (by omega)
      have hp : bs.map pOf = chn (T - 1) := by rw [HB.out, hiT]
      cases r with
      | false =>
        have HFI := Lib.hid (HF.out.fit (T := T) hp (by omega) hT16 (chn_ways T))
        by_cases h9 : 9 < T
        · have d2 : decide ((9 : Int) < (T : Int)) = true := decide_eq_true (by omega)
          have d3 : (9 : Int) < (T : Int) := by omega
          have HCK := Lib.hid (HC.out W0 a i c bs _ 5 HFI.out hp (by rw [pt_plain hT2 hT16, if_pos h9]))
          clear hp hiT
          go_wp2_with fail
          refine HCK.out.mono ?_
          rintro e w3 ⟨rfl, H3⟩
          go_wp2_with fail
          refine (awake_in I w3).mono ?_
          rintro e w4 ⟨rfl, H4⟩
          go_wp2_with fail
          go_ret
          exact ⟨rfl, below_then HF.out.below (below_then H3.out H4)⟩
        · have d2 : decide ((9 : Int) < (T : Int)) = false := decide_eq_false (by omega)
          have d3 : ¬ 9 < T := h9
          have HCK := Lib.hid (HC.out W0 a i c bs _ 0 HFI.out hp (by rw [pt_plain hT2 hT16, if_neg h9]))
          clear hp hiT
          go_wp2_with fail
          refine HCK.out.mono ?_
          rintro e w3 ⟨rfl, H3⟩
          go_wp2_with fail
          refine (awake_in I w3).mono ?_
          rintro e w4 ⟨rfl, H4⟩
          go_wp2_with fail
          go_ret
          exact ⟨rfl, below_then HF.out.below (below_then H3.out H4)⟩
      | true =>
        obtain ⟨a2, c2, W2, HR, HF2⟩ := HF.out.more 1 (T : Int) (by omega)
        obtain ⟨⟨q0, q1, q2, q3, q4, q5, q6, q7⟩, g0, g1, g2, g3, g4, g5, g6, g7⟩ := blk8 HF2.out.blk
        obtain ⟨W3, hW3⟩ : ∃ W, W2.setCell ⟨K, 1, none⟩ (.slice a2 (i + 1) c2) = W := ⟨_, rfl⟩
        have HF3 : Hid (Fill w W3 K #[.int .i64 (T : Int), .slice a2 (i + 1) c2, .int .i64 1, .slice none 0 0, .int .i64 1, .int .i64 0, .int .i64 0, .int .i64 0] (.slice a2 (i + 1) c2) (bs ++ [⟨1, 1, 1, some ⟨W0.heap.size, 0, none⟩, 1, 1, [⟨(T : Int), 1⟩], 0, 0, 1⟩])) := Lib.hid (by rw [← hW3]; exact HF2.out.set 1 _)
        have hp2 : (bs ++ [(⟨1, 1, 1, some ⟨W0.heap.size, 0, none⟩, 1, 1, [⟨(T : Int), 1⟩], 0, 0, 1⟩ : Recipe.Bl)]).map pOf = chn (T - 1) ++ [lnk 1 (T : Int)] := by rw [List.map_append, hp]; rfl
        have HFI := Lib.hid (HF3.out.fit (T := T) hp2 (by omega) hT16 (fun b hb => by
          rcases List.mem_append.1 hb with hb | hb
          · exact chn_ways T b hb
          · rw [List.mem_singleton.1 hb]
            exact ⟨1, (T : Int), rfl, by omega, by omega, by omega, by omega, by omega⟩))
        have HCK := Lib.hid (HC.out W3 a2 (i + 1) c2 _ _ 9 HFI.out hp2 (pt_round hT2 hT16))
        obtain ⟨⟨z0, z1, z2, z3, z4, z5, z6, z7⟩, _⟩ := blk8 HF3.out.blk
        clear hp hp2 hiT
        by_cases h9 : 9 < T
        · have d2 : decide ((9 : Int) < (T : Int)) = true := decide_eq_true (by omega)
          have d3 : (9 : Int) < (T : Int) := by omega
          go_wp2_with (at_builtin; refine walk_run (v' := .slice a2 (i + 1) c2) (w' := W2) rfl _ _ _ _ rfl _ _ rfl rfl ?_ ?_; exact HR.out)
          refine HCK.out.mono ?_
          rintro e w3 ⟨rfl, H3⟩
          go_wp2_with fail
          refine (awake_in I w3).mono ?_
          rintro e w4 ⟨rfl, H4⟩
          go_wp2_with fail
          go_ret
          exact ⟨rfl, below_then HF3.out.below (below_then H3.out H4)⟩
        · have d2 : decide ((9 : Int) < (T : Int)) = false := decide_eq_false (by omega)
          have d3 : ¬ 9 < T := h9
          go_wp2_with (at_builtin; refine walk_run (v' := .slice a2 (i + 1) c2) (w' := W2) rfl _ _ _ _ rfl _ _ rfl rfl ?_ ?_; exact HR.out)
          refine HCK.out.mono ?_
          rintro e w3 ⟨rfl, H3⟩
          go_wp2_with fail
          refine (awake_in I w3).mono ?_
          rintro e w4 ⟨rfl, H4⟩
          go_wp2_with fail
          go_ret
          exact ⟨rfl, below_then HF3.out.below (below_then H3.out H4)⟩
end Go.Proofs.Yteaclacbdelinaa.Cat
