/- The document's Keys and Range. -/
import Derived.Test.YtighjiiaplihjaaTabD
namespace Go.Proofs.Ytighjiiaplihjaa.Tab
open Go.RowKit Go.Lib

abbrev zeroKeyV : Value := .agg #[.int .i64 0, .int .i64 0, .int .i64 0, .int .i64 0]
theorem info_key : (Try.prog.info? 38).map (fun i => (i.zero, i.size, i.bytes)) = some (some zeroKeyV, 4, 32) := by kernel_rfl
theorem kcells_one : ∀ (l : List Key), ∀ u ∈ kcells l, u.oneCell' = true
  | [], u, h => by cases h
  | p :: l, u, h => by
    rw [kcells_cons] at h
    rcases List.mem_append.1 h with h | h
    · simp [keyCells] at h
      rcases h with rfl | rfl | rfl | rfl <;> rfl
    · exact kcells_one l u h
theorem app_keys (w : World) (B : Nat) (v : Value) (xs ys : List Key) (h : OwnK w B v xs) (xa : Option Addr) (m xc : Nat) (hm : m = ys.length) (hsrc : ∀ j u, (kcells ys)[j]? = some u → ∃ ad, xa = some ad ∧ w.cell? (ad.add j) = some u) (hl : xs.length + ys.length ≤ 1099511627776) (hB : B ≤ w.heap.size) :
    ∃ v' w', (Builtin.append_ #[25, 25] 25 #[v, .slice xa m xc]).run Try.prog w = .ok v' w' ∧ OwnK w' B v' (xs ++ ys) ∧ Below B w w' := by
  obtain ⟨i0, hi, hz0, hz1, hz2⟩ := info_parts info_key
  subst hm
  obtain ⟨v', w', hr, h2, h3⟩ := app_any (P := Try.prog) (t := 25) (e := 38) (i := i0) w B 25 zeroKeyV 4 32 Try.underlying25 hi hz0 hz1 hz2 rfl (by omega) v xs.length (kcells xs) h xa ys.length xc (kcells ys) (kcells_length ys) hsrc (kcells_one ys) (by unfold maxLen; omega) (by omega) hB
  rw [← kcells_append, ← List.length_append] at h2
  exact ⟨v', w', hr, h2, (Below.refl B w).grown h3 hB (fun k hk => (h.lt k hk).1)⟩
theorem below_cat {B : Nat} {a b c : World} (h : Below B a b) (k : Below B b c) : Below B a c := ⟨k.os.trans h.os, k.tape.trans h.tape, k.output.trans h.output, Nat.le_trans h.size k.size, fun q hq => (k.block q hq).trans (h.block q hq)⟩
set_option maxRecDepth 100000 in
set_option maxHeartbeats 4000000 in
theorem keys_any (lv : Value) (l : List Pair) (w : World) (h : Pairs w lv l) (hl : l.length ≤ 1048576) :
    Calls Try.prog 14 #[lv] w fun e w' => ∃ o, e = .returned o ∧ OwnK w' w.heap.size o (keys l) ∧ Below w.heap.size w w' := by
  obtain ⟨a, c, rfl, hcap, hat⟩ := pairs_at h
  obtain ⟨n, hn⟩ : ∃ n, l.length = n := ⟨_, rfl⟩
  rw [hn] at hcap hl ⊢
  have HAT := Lib.hid hat; have HN := Lib.hid hn
  clear h hat hn
  go_enter Try.func14, Try.ntmps14
  go_wp2_with fail
  go_loopw [3, 4] (fun o t wr => ∃ i : Nat, i ≤ n ∧ t = .int .i64 i ∧ OwnK wr w.heap.size o (keys (l.take i)) ∧ Below w.heap.size w wr) (fun _ t _ => n - (RowKit.intOf t).toNat)
  case atStart => exact ⟨0, by omega, rfl, World.ownsRow_nil _ _ _ _, Below.refl _ _⟩
  case round =>
    obtain ⟨i, hi, rfl, hown, hbel⟩ := hrel
    by_cases hlt : i < n
    · obtain ⟨p, hp⟩ : ∃ p, l[i]? = some p := ⟨l[i]'(by have := HN.out; omega), List.getElem?_eq_getElem (by have := HN.out; omega)⟩
      obtain ⟨g, rfl, hg, c0, c1, c2, c3, c4⟩ := HAT.out i p hp
      have e0 := ((bcell hbel).1 g _ hg).trans c0; have e1 := ((bcell hbel).1 g _ hg).trans c1; have e2 := ((bcell hbel).1 g _ hg).trans c2; have e3 := ((bcell hbel).1 g _ hg).trans c3
      have hsz := hbel.size
      have hlen : (keys (l.take i)).length = i := by unfold keys; rw [List.length_map, List.length_take]; have := HN.out; omega
      obtain ⟨v', w2, hr, h2, b2⟩ := app_keys (wr.alloc (.cells #[.int .i64 p.k.a, .int .i64 p.k.b, .int .i64 p.k.c, .int .i64 p.k.d] 38)) w.heap.size u3 (keys (l.take i)) [p.k] (hown.alloc _) (some ⟨wr.heap.size, 0, none⟩) 1 1 rfl (fun j u hj => ⟨_, rfl, by
        have hblk := heap_alloc_new wr (.cells #[.int .i64 p.k.a, .int .i64 p.k.b, .int .i64 p.k.c, .int .i64 p.k.d] 38)
        rw [addr_add, Nat.zero_add]
        refine cell_block (j := j) hblk ?_
        rw [← Array.getElem?_toList]
        exact hj⟩) (by rw [hlen, List.length_singleton]; omega) (by simp; omega)
      have hks : keys (l.take i) ++ [p.k] = keys (l.take (i + 1)) := by
        unfold keys
        rw [take_snoc hp, List.map_append]
        rfl
      rw [hks] at h2
      have HR := Lib.hid hr; have H2 := Lib.hid h2
      have HB2 := Lib.hid (below_cat (hbel.alloc hsz (.cells #[.int .i64 p.k.a, .int .i64 p.k.b, .int .i64 p.k.c, .int .i64 p.k.d] 38)) b2)
      have hi0 : (0 : Int) ≤ (i : Int) := by omega
      have hlt2 : (i : Int) < (n : Int) := by omega
      clear c0 c1 c2 c3 c4 hr h2 b2 hown hbel hks hlen
      go_wp2_with (at_builtin; refine walk_run rfl _ _ _ _ rfl _ _ rfl rfl HR.out ?_)
      go_roundw
      case rel => exact ⟨i + 1, by omega, by go_num, H2.out, HB2.out⟩
      case measure => simp [RowKit.intOf]; omega
    · obtain rfl : i = n := by omega
      rw [List.take_of_length_le (by have := HN.out; omega)] at hown
      go_wp2_with fail
      go_ret
      exact ⟨_, rfl, hown, hbel⟩
end Go.Proofs.Ytighjiiaplihjaa.Tab
