/- The document's Order. One more number at a row's end; the document's in of a row of one's own. The document's Deep. -/
import Derived.Test.YtohlkaoophbinaaZRecMath
import Derived.Test.YtohlkaoophbinaaZGoodsMath
import Derived.Deep.OwnRows
import Derived.BigRegion
namespace Go.Proofs.Ytohlkaoophbinaa.Graph
open Go.RowKit Go.Lib IRows

def lenV : Value → Nat
  | .slice _ n _ => n
  | _ => 0
open Classical in
set_option maxRecDepth 100000 in
set_option maxHeartbeats 8000000 in
theorem dorder (n : Int) (a : Option Addr) (m c : Nat) (l : List Nd) (w : World) (hl : l.length = m) (hs : Nds w a l) (hm : m ≤ 1048576) :
    Calls Try.prog 59 #[.int .i64 n, .slice a m c] w fun e w' => ∃ a' m' c', e = .returned (.tuple #[.slice a' m' c', .int .i64 (ordE n l)]) ∧ Hid ((ordV n l).length = m' ∧ KS w' w.heap.size (.slice a' m' c') (ordV n l) ∧ Below w.heap.size w w') := by
  have HY := dmay n a m c l w hl hs hm
  by_cases hok : May n l
  case neg =>
    obtain ⟨e1, e2⟩ := ord_arg hok
    rw [decide_eq_false hok] at HY
    have HM := Lib.hid HY
    have HE : Hid ((ordV n l).length = 0 ∧ KS w w.heap.size (.slice none 0 0) (ordV n l) ∧ Below w.heap.size w w) := Lib.hid (by rw [e2]; exact ⟨rfl, ks_nil _ _, Below.refl _ _⟩)
    rw [e1]
    clear hl hs hm HY hok e1 e2
    go_enter Try.func59, Try.ntmps59
    go_wp2_with fail
    refine HM.out.mono ?_
    rintro e w' ⟨rfl, rfl⟩
    go_wp2_with fail
    go_ret2
    exact ⟨none, 0, 0, rfl, HE⟩
  rw [decide_eq_true hok] at HY
  have HM := Lib.hid HY
  have HOK := Lib.hid hok
  obtain ⟨N, rfl⟩ := Int.eq_ofNat_of_zero_le hok.1.1
  have hN : N ≤ 64 := by have := hok.1.2; omega
  have hN2 : (N : Int) ≤ 64 := by omega
  have HL := Lib.hid hl
  have HT := nds_at hs
  have hm1 : (m : Int) ≤ 256 := by have := hok.2.1; omega
  have H0 : Hid (KS w w.heap.size (.slice none 0 0) []) := Lib.hid (ks_nil _ _)
  have HNT : Hid (((N : Int)).toNat = N) := Lib.hid (by omega)
  clear hl hs hm HY hok
  go_enter Try.func59, Try.ntmps59
  go_wp2_with fail
  refine HM.out.mono ?_
  rintro e w' ⟨rfl, rfl⟩
  go_wp2_with fail
  go_loopw [6] (fun v wr => ∃ (a1 : Option Addr) (j c1 : Nat) (out : List Int), v = .slice a1 j c1 ∧ j ≤ N ∧ Hid (out.length = j ∧ KS wr w.heap.size (.slice a1 j c1) out) ∧ Hid (Below w.heap.size w wr) ∧ Hid (ordF N l (N - j) out = ordF N l N [])) (fun v _ => N - lenV v)
  case atStart => exact ⟨none, 0, 0, [], rfl, by omega, Lib.hid ⟨rfl, H0.out⟩, Lib.hid (Below.refl _ _), Lib.hid rfl⟩
  case round =>
    clear H0
    obtain ⟨a1, j, c1, out, rfl, hj, HO, HB, HF⟩ := hrel
    have hj0 : (j : Int) ≤ 64 := by omega
    by_cases hlt : j < N
    · have d1 : decide ((j : Int) < (N : Int)) = true := decide_eq_true (by omega)
      have hlt2 : (j : Int) < (N : Int) := by omega
      have HIN : Hid (∀ k, ∃ t : Bool, Hid (Calls Try.prog 88 #[.slice a1 j c1, .int .i64 k] wr fun e w' => e = .returned (.bool t) ∧ wr = w') ∧ Hid (t = true ↔ k ∈ out)) := Lib.hid (fun k => by
        obtain ⟨a2, c2, e, hr⟩ := irow_own (by have := HO.out.2; exact this)
        injection e with e1 e2 e3
        subst e1
        exact in_at k HO.out.1 hr (by omega))
      go_wp2_with fail
      go_loopw [7, 8] (fun s t wr' => ∃ q : Nat, s = .int .i64 (nx N l out q) ∧ t = .int .i64 ((N : Int) - q) ∧ q ≤ N ∧ wr = wr') (fun _ t _ => (RowKit.intOf t).toNat)
      case atStart => exact ⟨0, rfl, by simp, by omega, rfl⟩
      case round =>
        obtain ⟨q, rfl, rfl, hq, rfl⟩ := hrel
        by_cases hql : q < N
        · obtain ⟨k, hk⟩ : ∃ k, (N : Int) - q = k := ⟨_, rfl⟩
          have hk1 : 1 ≤ k := by omega
          have hk2 : k ≤ 64 := by omega
          have d2 : decide (1 ≤ k) = true := decide_eq_true hk1
          have HK := Lib.hid hk
          obtain ⟨t0, HI0, E0⟩ := HIN.out k
          have wk : IntKind.i64.wrap (k - 1) = k - 1 := IntWalk.i64_in _ (by omega)
          obtain ⟨x, hx⟩ : ∃ x, nx N l out q = x := ⟨_, rfl⟩
          have HX := Lib.hid hx
          rw [hk, hx]
          clear hk hx
          go_wp2_with fail
          refine HI0.out.mono ?_
          rintro e w' ⟨rfl, rfl⟩
          go_wp2_with fail
          go_loopw [9, 10] (fun s t wr'' => ∃ (i : Nat) (rd : Bool), s = .bool rd ∧ t = .int .i64 (i : Int) ∧ i ≤ m ∧ wr = wr'' ∧ Hid (rd = true ↔ (k ∉ out ∧ ∀ t ∈ l.take i, t.a = k → t.b ∈ out))) (fun _ t _ => m - (RowKit.intOf t).toNat)
          case atStart => exact ⟨0, !t0, rfl, rfl, by omega, rfl, Lib.hid (by
            have := E0.out
            cases t0 <;> simp_all)⟩
          case round =>
            obtain ⟨i, rd, rfl, rfl, hi, rfl, HR⟩ := hrel
            have hi0 : (0 : Int) ≤ (i : Int) := by omega
            by_cases hil : i < m
            · have hil2 : (i : Int) < (m : Int) := by omega
              obtain ⟨g, off, t, rfl, ht, z0, z1⟩ := HT.out wr i HB.out (by rw [HL.out]; exact hil)
              have wi : IntKind.i64.wrap ((i : Int) + 1) = (i : Int) + 1 := IntWalk.i64_in _ (by omega)
              cases rd
              · have HR2 : Hid (false = true ↔ (k ∉ out ∧ ∀ t ∈ l.take (i + 1), t.a = k → t.b ∈ out)) := Lib.hid ⟨fun h => (by cases h), fun h => HR.out.2 ⟨h.1, fun u hu => h.2 u ((mem_take_succ ht.out).2 (.inl hu))⟩⟩
                go_wp2_with fail
                go_roundw
                case rel => exact ⟨i + 1, false, rfl, by go_num, by omega, by first | rfl | trivial, HR2⟩
                case measure => simp [RowKit.intOf]; omega
              · by_cases ca : t.a = k
                · obtain ⟨tb, HIB, EB⟩ := HIN.out t.b
                  have ca2 : (t.a != k) = false := by simpa using ca
                  have ca3 : (t.a == k) = true := by simpa using ca
                  have HR2 : Hid (tb = true ↔ (k ∉ out ∧ ∀ t ∈ l.take (i + 1), t.a = k → t.b ∈ out)) := Lib.hid ⟨fun h => ⟨(HR.out.1 rfl).1, fun u hu e => by
                    rcases (mem_take_succ ht.out).1 hu with hu | rfl
                    · exact (HR.out.1 rfl).2 u hu e
                    · exact EB.out.1 h⟩, fun h => EB.out.2 (h.2 t ((mem_take_succ ht.out).2 (.inr rfl)) ca)⟩
                  clear ca
                  go_wp2_with fail
                  refine HIB.out.mono ?_
                  rintro e w' ⟨rfl, rfl⟩
                  go_wp2_with fail
                  go_roundw
                  case rel => exact ⟨i + 1, tb, rfl, by go_num, by omega, by first | rfl | trivial, HR2⟩
                  case measure => simp [RowKit.intOf]; omega
                · have ca2 : (t.a != k) = true := by simpa using ca
                  have ca3 : (t.a == k) = false := by simpa using ca
                  have HR2 : Hid (true = true ↔ (k ∉ out ∧ ∀ t ∈ l.take (i + 1), t.a = k → t.b ∈ out)) := Lib.hid ⟨fun _ => ⟨(HR.out.1 rfl).1, fun u hu e => by
                    rcases (mem_take_succ ht.out).1 hu with hu | rfl
                    · exact (HR.out.1 rfl).2 u hu e
                    · exact absurd e ca⟩, fun _ => rfl⟩
                  clear ca
                  go_wp2_with fail
                  go_roundw
                  case rel => exact ⟨i + 1, true, rfl, by go_num, by omega, by first | rfl | trivial, HR2⟩
                  case measure => simp [RowKit.intOf]; omega
            · obtain rfl : i = m := by omega
              have HRD : Hid (rd = true ↔ Ready l out ((N : Int) - q)) := Lib.hid (by
                have := HR.out
                rw [List.take_of_length_le (by rw [HL.out]; exact Nat.le_refl _)] at this
                rw [HK.out]
                exact this)
              cases rd
              · have HN2 : Hid (nx N l out (q + 1) = x) := Lib.hid (by rw [nx_no (fun h => by have := HRD.out.2 h; cases this)]; exact HX.out)
                go_wp2_with fail
                go_roundw
                case rel => exact ⟨q + 1, by rw [HN2.out], by rw [← HK.out]; congr 1; omega, by omega, by first | rfl | trivial⟩
                case measure => simp [RowKit.intOf]; omega
              · have HN2 : Hid (nx N l out (q + 1) = k) := Lib.hid (by rw [nx_yes (HRD.out.1 rfl)]; exact HK.out)
                go_wp2_with fail
                go_roundw
                case rel => exact ⟨q + 1, by rw [HN2.out], by rw [← HK.out]; congr 1; omega, by omega, by first | rfl | trivial⟩
                case measure => simp [RowKit.intOf]; omega
        · obtain rfl : q = N := by omega
          have hz : (q : Int) - (q : Int) = 0 := by omega
          rw [hz]
          obtain ⟨x, hx⟩ : ∃ x, nx q l out q = x := ⟨_, rfl⟩
          have HX : Hid (nx (q : Int) l out ((q : Int)).toNat = x) := Lib.hid (by rw [HNT.out]; exact hx)
          rw [hx]
          clear hx
          obtain ⟨r, hr⟩ : ∃ r, q - j = r + 1 := ⟨q - j - 1, by omega⟩
          by_cases hx0 : x = 0
          · subst hx0
            have HE := Lib.hid (ord_none HOK.out (by rw [HNT.out, ← HF.out, hr]; exact ordF_none HX.out))
            have HE2 : Hid ((ordV q l).length = 0 ∧ KS wr w.heap.size (.slice none 0 0) (ordV q l) ∧ Below w.heap.size w wr) := Lib.hid (by rw [HE.out.2]; exact ⟨rfl, ks_nil _ _, HB.out⟩)
            go_wp2_with fail
            go_ret2
            exact ⟨none, 0, 0, by rw [HE.out.1]; rfl, HE2⟩
          · have hx1 : (x == 0) = false := by simpa using hx0
            have HF2 : Hid (ordF q l (q - (j + 1)) (out ++ [x]) = ordF q l q []) := Lib.hid (by
              have h := HF.out
              rw [hr, ordF_more (by rw [HX.out]; exact hx0), HX.out] at h
              rw [show q - (j + 1) = r by omega]
              exact h)
            obtain ⟨g, cap, W3, hrun, ho3, hb3, _⟩ := app_int wr w.heap.size (.slice a1 j c1) out x (by have := HO.out.2; rw [← HO.out.1] at this; simpa [HO.out.1] using this) (by have := HO.out.1; omega) HB.out.size
            rw [HO.out.1] at hrun ho3
            have HRUN := Lib.hid hrun
            have HO3 : Hid ((out ++ [x]).length = j + 1 ∧ KS W3 w.heap.size (.slice (some ⟨g, 0, none⟩) (j + 1) cap) (out ++ [x])) := Lib.hid ⟨by rw [List.length_append, HO.out.1]; rfl, ho3⟩
            have HB3 : Hid (Below w.heap.size w W3) := Lib.hid (HB.out.trans hb3)
            clear hrun ho3 hb3 hx0
            go_wp2_with (at_builtin; refine walk_run (v' := .slice (some ⟨g, 0, none⟩) (j + 1) cap) (w' := W3) rfl _ _ _ _ rfl _ _ rfl rfl HRUN.out ?_)
            go_roundw
            case rel => exact ⟨some ⟨g, 0, none⟩, j + 1, cap, out ++ [x], by first | rfl | (congr 1), by omega, HO3, HB3, HF2⟩
            case measure => simp [lenV]; omega
    · obtain rfl : j = N := by omega
      have HE := Lib.hid (ord_some HOK.out (k := out) (by
        rw [HNT.out, ← HF.out, Nat.sub_self]
        rfl))
      have HE2 : Hid ((ordV j l).length = j ∧ KS wr w.heap.size (.slice a1 j c1) (ordV j l) ∧ Below w.heap.size w wr) := Lib.hid (by rw [HE.out.2]; exact ⟨HO.out.1, HO.out.2, HB.out⟩)
      go_wp2_with fail
      go_ret2
      exact ⟨a1, j, c1, by rw [HE.out.1]; rfl, HE2⟩
end Go.Proofs.Ytohlkaoophbinaa.Graph
namespace Go.Proofs.Ytohlkaoophbinaa.Graph
open Go.RowKit Go.Lib IRows

/-- One more number at a row's end, as walks want it. -/
theorem app1 {wr : World} {B : Nat} {a1 : Option Addr} {j c1 : Nat} {out : List Int} (x : Int) (hl : out.length = j) (h : KS wr B (.slice a1 j c1) out) (hj : j ≤ 1099511627776) (hB : B ≤ wr.heap.size) :
    ∃ a3 c3 W3, Hid ((Builtin.append_ #[33, 33] 33 #[.slice a1 j c1, .slice (some ⟨wr.heap.size, 0, none⟩) 1 1]).run Try.prog (wr.alloc (.cells #[.int .i64 x] 3)) = .ok (.slice a3 (j + 1) c3) W3) ∧ (out ++ [x]).length = j + 1 ∧ KS W3 B (.slice a3 (j + 1) c3) (out ++ [x]) ∧ Below B wr W3 := by
  subst hl
  obtain ⟨g, cap, W3, hrun, ho3, hb3, _⟩ := app_int wr B (.slice a1 out.length c1) out x h hj hB
  exact ⟨_, _, W3, Lib.hid hrun, by simp, ho3, hb3⟩
theorem in_own {wr : World} {B : Nat} {a1 : Option Addr} {j c1 : Nat} {out : List Int} (hl : out.length = j) (h : KS wr B (.slice a1 j c1) out) (hj : j ≤ 1048576) (k : Int) :
    ∃ t : Bool, Hid (Calls Try.prog 88 #[.slice a1 j c1, .int .i64 k] wr fun e w' => e = .returned (.bool t) ∧ wr = w') ∧ Hid (t = true ↔ k ∈ out) := by
  obtain ⟨a2, c2, e, hr⟩ := irow_own h
  injection e with e1 e2 e3
  subst e1
  exact in_at k hl hr hj
end Go.Proofs.Ytohlkaoophbinaa.Graph
namespace Go.Proofs.Ytohlkaoophbinaa.Graph
open Go.RowKit Go.Lib IRows

/-- One need of a node: it stands deeper than what it needs. -/
def stepD (x : Int) (D : List Int) (t : Nd) : List Int := if t.a = x then D.set (x - 1).toNat (max (D.getD (x - 1).toNat 0) (D.getD (t.b - 1).toNat 0 + 1)) else D
def rowD (x : Int) : List Nd → List Int → List Int
  | [], D => D
  | t :: l, D => rowD x l (stepD x D t)
def deepD (l : List Nd) : List Int → List Int → List Int
  | [], D => D
  | x :: o, D => deepD l o (rowD x l D)
noncomputable def degV (n : Int) (l : List Nd) : List Int := if ordE n l = 0 then deepD l (ordV n l) (List.replicate n.toNat 0) else []
theorem rowD_drop {x : Int} {l : List Nd} {i : Nat} {t : Nd} {D : List Int} (h : l[i]? = some t) : rowD x (l.drop i) D = rowD x (l.drop (i + 1)) (stepD x D t) := by
  obtain ⟨hi, e⟩ := List.getElem?_eq_some_iff.1 h
  rw [List.drop_eq_getElem_cons hi, e]
  rfl
theorem deepD_drop {l : List Nd} {o : List Int} {i : Nat} {x : Int} {D : List Int} (h : o[i]? = some x) : deepD l (o.drop i) D = deepD l (o.drop (i + 1)) (rowD x l D) := by
  obtain ⟨hi, e⟩ := List.getElem?_eq_some_iff.1 h
  rw [List.drop_eq_getElem_cons hi, e]
  rfl
/-- So many numbers, none of them great. -/
def Deeps (N : Nat) (K : Int) (D : List Int) : Prop := D.length = N ∧ ∀ d ∈ D, 0 ≤ d ∧ d ≤ K
theorem deeps_zero (N : Nat) : Deeps N 0 (List.replicate N 0) := ⟨by simp, fun d h => by rw [(List.mem_replicate.1 h).2]; omega⟩
theorem Deeps.more {N : Nat} {K K' : Int} {D : List Int} (h : Deeps N K D) (hK : K ≤ K') : Deeps N K' D := ⟨h.1, fun d hd => by have := h.2 d hd; omega⟩
theorem Deeps.set {N : Nat} {K : Int} {D : List Int} (h : Deeps N K D) (p : Nat) (M : Int) (h0 : 0 ≤ M) (h1 : M ≤ K + 1) : Deeps N (K + 1) (D.set p M) := by
  refine ⟨by rw [List.length_set]; exact h.1, fun d hd => ?_⟩
  rcases List.mem_or_eq_of_mem_set hd with hd | rfl
  · have := h.2 d hd; omega
  · omega
theorem ord_zero {n : Int} {l : List Nd} (h : ordE n l = 0) : May n l ∧ Stands n l (ordV n l) ∧ (ordV n l).length = n.toNat := by
  by_cases hm : May n l
  · cases ho : ordF n l n.toNat [] with
    | none =>
      have := (ord_none hm ho).1
      omega
    | some o =>
      obtain ⟨r1, r2⟩ := ordF_stands hm.1.1 n.toNat [] o (stands_nil n l) ho
      rw [(ord_some hm ho).2]
      exact ⟨hm, r1, by simpa using r2⟩
  · have := (ord_arg hm).1
    omega
theorem info_one : (Try.prog.info? 3).map (fun i => (i.zero, i.size, i.bytes)) = some (some (.int .i64 0), 1, 8) := by kernel_rfl
theorem made_ints (n : Nat) : (madeCells #[(Value.int .i64 0)] n).toList = (List.replicate n (0 : Int)).map (Value.int .i64) := by
  rw [List.map_replicate]
  apply List.ext_getElem?
  intro i
  by_cases h : i < n
  · rw [List.getElem?_replicate, if_pos h, Array.getElem?_toList]
    simp [madeCells, h, Nat.mod_one]
  · rw [List.getElem?_replicate, if_neg h, Array.getElem?_toList]
    simp [madeCells, h]
/-- A row of zeros that make has made. -/
theorem ks_made (w : World) (n : Nat) {B : Nat} (hB : B ≤ w.heap.size) (hn : n ≤ 1048576) : KS (w.alloc (.cells (madeCells #[(Value.int .i64 0)] n) 3)) B (.slice (some ⟨w.heap.size, 0, none⟩) n n) (List.replicate n 0) := by
  have h := heap_alloc_new w (.cells (madeCells #[(Value.int .i64 0)] n) 3)
  have hs : (madeCells #[(Value.int .i64 0)] n).size = n * 1 := by simp [madeCells]
  refine ⟨by simp, .inr ⟨w.heap.size, n, madeCells #[(Value.int .i64 0)] n, by simp, hB, h, by simp, by unfold maxLen; omega, hs, ?_⟩⟩
  rw [made_ints, List.take_of_length_le (by simp)]
/-- A cell of a row of one's own. -/
theorem ks_cell {w : World} {B G n c : Nat} {D : List Int} (h : KS w B (.slice (some ⟨G, 0, none⟩) n c) D) {p : Nat} (hp : p < D.length) : w.cell? ⟨G, p, none⟩ = some (.int .i64 (D.getD p 0)) ∧ w.frozen? ⟨G, p, none⟩ = false := by
  obtain ⟨a3, c4, e3, _, hat⟩ := h.at
  injection e3 with e3 _ _
  subst e3
  obtain ⟨q, e, _, k0, f0⟩ := hat p D[p] (List.getElem?_eq_getElem hp)
  cases e
  refine ⟨?_, f0⟩
  rw [k0]
  simp [List.getD, hp]
open Classical in
set_option maxRecDepth 100000 in
set_option maxHeartbeats 8000000 in
theorem ddeep (n : Int) (a : Option Addr) (m c : Nat) (l : List Nd) (w : World) (hl : l.length = m) (hs : Nds w a l) (hm : m ≤ 1048576) :
    Calls Try.prog 86 #[.int .i64 n, .slice a m c] w fun e w' => ∃ a' m' c', e = .returned (.tuple #[.slice a' m' c', .int .i64 (ordE n l)]) ∧ Hid ((degV n l).length = m' ∧ KS w' w.heap.size (.slice a' m' c') (degV n l) ∧ Below w.heap.size w w') := by
  have HO := Lib.hid (dorder n a m c l w hl hs hm)
  by_cases he : ordE n l = 0
  case neg =>
    obtain ⟨er, her⟩ : ∃ er, ordE n l = er := ⟨_, rfl⟩
    have HD : Hid (degV n l = []) := Lib.hid (by unfold degV; rw [if_neg he])
    rw [her] at HO he
    rw [her]
    have n1 : (er == 0) = false := by simpa using he
    have n2 : (er != 0) = true := by simpa using he
    clear hl hs hm her
    go_enter Try.func86, Try.ntmps86
    go_wp2_with fail
    refine HO.out.mono ?_
    rintro e w1 ⟨a1, j, c1, rfl, H1⟩
    go_wp2_with fail
    go_ret2
    exact ⟨none, 0, 0, rfl, Lib.hid (by rw [HD.out]; exact ⟨rfl, ks_nil _ _, H1.out.2.2⟩)⟩
  obtain ⟨hok, hst, hol⟩ := ord_zero he
  have HD : Hid (degV n l = deepD l (ordV n l) (List.replicate n.toNat 0)) := Lib.hid (by unfold degV; rw [if_pos he])
  obtain ⟨N, rfl⟩ := Int.eq_ofNat_of_zero_le hok.1.1
  have hN : N ≤ 64 := by have := hok.1.2; omega
  have hN2 : (N : Int) ≤ 64 := by omega
  have hNT : ((N : Int)).toNat = N := by omega
  rw [hNT] at HD hol
  have HL := Lib.hid hl
  have HT := nds_at hs
  have hm1 : (m : Int) ≤ 256 := by have := hok.2.1; omega
  have HM2 : Hid (m ≤ 256) := Lib.hid (by omega)
  have HOK := Lib.hid hok.2.2
  have HST := Lib.hid hst.node
  rw [he] at HO ⊢
  obtain ⟨o, ho⟩ : ∃ o, ordV N l = o := ⟨_, rfl⟩
  rw [ho] at HO HD HST hol
  have HOL := Lib.hid hol
  clear hl hs hm hok hst hol ho he hNT
  go_enter Try.func86, Try.ntmps86
  go_wp2_with fail
  refine HO.out.mono ?_
  rintro e w1 ⟨a1, j, c1, rfl, H1⟩
  obtain rfl : j = N := by rw [← H1.out.1]; exact HOL.out
  obtain ⟨G, hG⟩ : ∃ G, w1.heap.size = G := ⟨_, rfl⟩
  obtain ⟨Z, hZ⟩ : ∃ Z, w1.alloc (.cells (madeCells #[(Value.int .i64 0)] j) 3) = Z := ⟨_, rfl⟩
  have HZ : Hid (KS Z G (.slice (some ⟨G, 0, none⟩) j j) (List.replicate j 0) ∧ Below G w1 Z) := Lib.hid (by
    rw [← hZ, ← hG]
    exact ⟨ks_made w1 j (Nat.le_refl _) (by omega), (Below.refl _ _).alloc (Nat.le_refl _) _⟩)
  have HG := Lib.hid hG
  have HOR : Hid (∀ W i, Below G w1 W → i < j → ∃ (g off p : Nat), a1 = some ⟨g, off, none⟩ ∧ Hid (o[i]? = some ((p : Int) + 1)) ∧ p < j ∧ W.cell? ⟨g, off + i, none⟩ = some (.int .i64 ((p : Int) + 1))) := Lib.hid (fun W i hW hi => by
    obtain ⟨a2, c2, e, hr⟩ := irow_own H1.out.2.1
    injection e with e1 e2 e3
    subst e1
    obtain ⟨g, off, x, e, hx, hc⟩ := (irow_at hr).out W i (by rw [hG]; exact hW) (by rw [HOL.out]; exact hi)
    have hb := HST.out x (List.mem_of_getElem? hx.out)
    obtain ⟨p, hp⟩ := Int.eq_ofNat_of_zero_le (show 0 ≤ x - 1 by omega)
    obtain rfl : x = (p : Int) + 1 := by omega
    exact ⟨g, off, p, e, hx, by omega, hc⟩)
  have hmk := run_make_row' (P := Try.prog) 33 3 (.int .i64 0) 8 Try.underlying33 info_one rfl .i64 .i64 j (by omega) (by omega)
  go_wp2_with fail
  clear hmk hZ hG
  go_loopw [9] (fun t wr => ∃ (k : Nat) (D : List Int), t = .int .i64 (k : Int) ∧ k ≤ j ∧ Hid (KS wr G (.slice (some ⟨G, 0, none⟩) j j) D ∧ Below G w1 wr) ∧ Hid (Deeps j (k * 256) D ∧ deepD l (o.drop k) D = degV j l)) (fun t _ => j - (RowKit.intOf t).toNat)
  case atStart => exact ⟨0, List.replicate j 0, rfl, by omega, HZ, Lib.hid ⟨by simpa using deeps_zero j, by rw [HD.out]; rfl⟩⟩
  case round =>
    clear HZ
    obtain ⟨k, D0, rfl, hk, HK, HDD⟩ := hrel
    have hk0 : (0 : Int) ≤ (k : Int) := by omega
    by_cases hlt : k < j
    · have hlt2 : (k : Int) < (j : Int) := by omega
      have wk : IntKind.i64.wrap ((k : Int) + 1) = (k : Int) + 1 := IntWalk.i64_in _ (by omega)
      obtain ⟨g0, o0, p, rfl, HX, hpj, _⟩ := HOR.out _ k HK.out.2 hlt
      go_wp2_with fail
      go_loopw [10] (fun t wr' => ∃ (i : Nat) (D : List Int), t = .int .i64 (i : Int) ∧ i ≤ m ∧ Hid (KS wr' G (.slice (some ⟨G, 0, none⟩) j j) D ∧ Below G w1 wr') ∧ Hid (Deeps j (k * 256 + i) D ∧ rowD ((p : Int) + 1) (l.drop i) D = rowD ((p : Int) + 1) l D0)) (fun t _ => m - (RowKit.intOf t).toNat)
      case atStart => exact ⟨0, D0, rfl, by omega, HK, Lib.hid ⟨by simpa using HDD.out.1, rfl⟩⟩
      case round =>
        obtain ⟨i, D, rfl, hi, HI, HDI⟩ := hrel
        have hi0 : (0 : Int) ≤ (i : Int) := by omega
        by_cases hil : i < m
        · have hil2 : (i : Int) < (m : Int) := by omega
          have wi : IntKind.i64.wrap ((i : Int) + 1) = (i : Int) + 1 := IntWalk.i64_in _ (by omega)
          obtain ⟨g, off, t, rfl, ht, z0, z1⟩ := HT.out _ i (below_then H1.out.2.2 (by rw [HG.out]; exact HI.out.2)) (by rw [HL.out]; exact hil)
          obtain ⟨g0', o0', p', e1, HX', _, y0⟩ := HOR.out _ k HI.out.2 hlt
          cases e1
          have hpp : p' = p := by have h1 := HX.out; rw [HX'.out] at h1; injection h1 with h1; omega
          subst hpp
          by_cases ca : t.a = (p' : Int) + 1
          case neg =>
            have ca2 : (t.a == (p' : Int) + 1) = false := by simpa using ca
            have HDI2 : Hid (Deeps j (k * 256 + (i + 1 : Nat)) D ∧ rowD ((p' : Int) + 1) (l.drop (i + 1)) D = rowD ((p' : Int) + 1) l D0) := Lib.hid ⟨HDI.out.1.more (by omega), by
              have h := HDI.out.2
              rw [rowD_drop ht.out] at h
              unfold stepD at h
              rw [if_neg ca] at h
              exact h⟩
            have HI2 : Hid (∀ q, KS (_) G (.slice (some ⟨G, 0, none⟩) j j) D ∧ Below G w1 _) := Lib.hid (fun q => ⟨HI.out.1.under (below_drewN (Below.refl _ _) q), below_drewN HI.out.2 q⟩)
            clear ca
            go_wp2_with fail
            go_quiet (fail)
            go_wp2_with fail
            go_roundw
            case rel => exact ⟨i + 1, D, by go_num, by omega, Lib.hid (HI2.out _), HDI2⟩
            case measure => simp [RowKit.intOf]; omega
          have CA := Lib.hid ca
          have ca2 : (t.a == (p' : Int) + 1) = true := by simpa using ca
          have hbt := (HOK.out t (List.mem_of_getElem? ht.out)).2
          obtain ⟨r, hr⟩ := Int.eq_ofNat_of_zero_le (show 0 ≤ t.b - 1 by omega)
          have htb : t.b = (r : Int) + 1 := by omega
          have hrj : r < j := by omega
          have HTB := Lib.hid htb
          rw [htb] at z1
          have hDl := HDI.out.1.1
          have hpD : p' < D.length := by omega
          have hrD : r < D.length := by omega
          obtain ⟨u0, u1⟩ := ks_cell HI.out.1 hpD
          obtain ⟨v0, _⟩ := ks_cell HI.out.1 hrD
          obtain ⟨dp, hdp⟩ : ∃ d, D.getD p' 0 = d := ⟨_, rfl⟩
          obtain ⟨dr, hdr⟩ : ∃ d, D.getD r 0 = d := ⟨_, rfl⟩
          have bp : 0 ≤ dp ∧ dp ≤ k * 256 + i := HDI.out.1.2 dp (by rw [← hdp, List.getD_eq_getElem?_getD, List.getElem?_eq_getElem hpD]; exact List.getElem_mem hpD)
          have br : 0 ≤ dr ∧ dr ≤ k * 256 + i := HDI.out.1.2 dr (by rw [← hdr, List.getD_eq_getElem?_getD, List.getElem?_eq_getElem hrD]; exact List.getElem_mem hrD)
          rw [hdp] at u0
          rw [hdr] at v0
          obtain ⟨M, hM⟩ : ∃ M, (if dr + 1 > dp then dr + 1 else dp) = M := ⟨_, rfl⟩
          have hMb : 0 ≤ M ∧ M ≤ k * 256 + i + 1 := by rw [← hM]; split <;> omega
          have hMx : M = max dp (dr + 1) := by rw [← hM]; split <;> omega
          have wd : IntKind.i64.wrap (dr + 1) = dr + 1 := IntWalk.i64_in _ (by omega)
          have wp : IntKind.i64.wrap (p' : Int) = (p' : Int) := IntWalk.i64_in _ (by omega)
          have wr' : IntKind.i64.wrap (r : Int) = (r : Int) := IntWalk.i64_in _ (by omega)
          have hp0 : (0 : Int) ≤ (p' : Int) := by omega
          have hr0 : (0 : Int) ≤ (r : Int) := by omega
          have hp2 : (p' : Int) < (j : Int) := by omega
          have hr2 : (r : Int) < (j : Int) := by omega
          have HST2 : Hid (stepD ((p' : Int) + 1) D t = D.set p' M) := Lib.hid (by
            unfold stepD
            rw [if_pos CA.out, HTB.out, show ((p' : Int) + 1 - 1).toNat = p' by omega, show ((r : Int) + 1 - 1).toNat = r by omega, hdp, hdr, hMx])
          have HDI2 : Hid (Deeps j (k * 256 + (i + 1 : Nat)) (D.set p' M) ∧ rowD ((p' : Int) + 1) (l.drop (i + 1)) (D.set p' M) = rowD ((p' : Int) + 1) l D0) := Lib.hid ⟨(HDI.out.1.set p' M hMb.1 hMb.2).more (by omega), by
              have h := HDI.out.2
              rw [rowD_drop ht.out, HST2.out] at h
              exact h⟩
          clear ca hbt hr htb hrj hDl hpD hrD hdp hdr bp br hMb hMx hpj
          go_wp2_with fail
          go_quiet (fail)
          go_wp2_with fail
          generalize hY : World.drewN _ _ = Y
          have y0' : Y.cell? ⟨g0, o0 + k, none⟩ = some (.int .i64 ((p' : Int) + 1)) := by rw [← hY]; exact y0
          have z0' : Y.cell? ⟨g, off + i * 2, none⟩ = some (.int .i64 t.a) := by rw [← hY]; exact z0
          have z1' : Y.cell? ⟨g, off + i * 2 + 1, none⟩ = some (.int .i64 ((r : Int) + 1)) := by rw [← hY]; exact z1
          have u0' : Y.cell? ⟨G, p', none⟩ = some (.int .i64 dp) := by rw [← hY]; exact u0
          have u1' : Y.frozen? ⟨G, p', none⟩ = false := by rw [← hY]; exact u1
          have v0' : Y.cell? ⟨G, r, none⟩ = some (.int .i64 dr) := by rw [← hY]; exact v0
          have HYY : Hid (KS Y G (.slice (some ⟨G, 0, none⟩) j j) D ∧ Below G w1 Y) := Lib.hid (by rw [← hY]; exact ⟨HI.out.1.under (below_drewN (Below.refl _ _) _), below_drewN HI.out.2 _⟩)
          clear hY y0 z0 z1 u0 u1 v0
          have HW2 : Hid (KS (Y.setCell ⟨G, p', none⟩ (.int .i64 M)).drew G (.slice (some ⟨G, 0, none⟩) j j) (D.set p' M) ∧ Below G w1 (Y.setCell ⟨G, p', none⟩ (.int .i64 M)).drew) := Lib.hid (by
            obtain ⟨s1, s2, _⟩ := set_int HYY.out.1 p' M
            exact ⟨s1.under (Below.refl _ _).drew, (HYY.out.2.trans s2).drew⟩)
          go_region
          go_wp2_with fail
          go_roundw
          case rel => exact ⟨i + 1, D.set p' M, by go_num, by omega, HW2, HDI2⟩
          case measure => simp [RowKit.intOf]; omega
        · obtain rfl : i = m := by omega
          have HDD2 : Hid (Deeps j ((k + 1 : Nat) * 256) D ∧ deepD l (o.drop (k + 1)) D = degV j l) := Lib.hid (by
            have h := HDI.out.2
            rw [List.drop_of_length_le (by rw [HL.out]; exact Nat.le_refl _)] at h
            have h' : D = rowD ((p : Int) + 1) l D0 := h
            refine ⟨HDI.out.1.more (by have := HM2.out; omega), ?_⟩
            rw [h', ← deepD_drop HX.out]
            exact HDD.out.2)
          go_wp2_with fail
          go_roundw
          case rel => exact ⟨k + 1, D, by go_num, by omega, HI, HDD2⟩
          case measure => simp [RowKit.intOf]; omega
    · obtain rfl : k = j := by omega
      have HE : Hid ((degV k l).length = k ∧ KS _ w.heap.size (.slice (some ⟨G, 0, none⟩) k k) (degV k l) ∧ Below w.heap.size w _) := Lib.hid (by
        have h := HDD.out.2
        rw [List.drop_of_length_le (by rw [HOL.out]; exact Nat.le_refl _)] at h
        have h' : D0 = degV k l := h
        rw [← h']
        exact ⟨HDD.out.1.1, World.ownsRow.mono HK.out.1 (by rw [← HG.out]; exact H1.out.2.2.size), below_then H1.out.2.2 (by rw [HG.out]; exact HK.out.2)⟩)
      go_wp2_with fail
      go_ret2
      exact ⟨_, k, k, rfl, HE⟩
end Go.Proofs.Ytohlkaoophbinaa.Graph
