/- Acts that come in as a law's arguments. -/
import Derived.Test.YtflkglnmenbmaaaDiskK
import Derived.Test.YtflkglnmenbmaaaOpen
namespace Go.Proofs.Ytflkglnmenbmaaa.Disk
open Go.RowKit Go.Lib Go.ChangeShapes Go.WideShapes Go.Deep

theorem i64_in {x : Int} (h : (Lit.int .i64 x).wf = true) : -9223372036854775808 ≤ x ∧ x ≤ 9223372036854775807 := by
  simp [Lit.wf, IntKind.min, IntKind.max, IntKind.signed, IntKind.bits] at h
  exact ⟨by omega, by omega⟩
/-- One act out of its six cells. -/
theorem act_of {H : Type} {enc : TypeId × Value → H} {W : World} {V : Nat → Value} {fs : Array Field} (hu : Try.prog.underlying 36 = some (.struct fs))
    (h : ∀ (i : Nat) (f : Field), fs[i]? = some f → ∃ n y, DataW.trod enc Try.prog W 0 (fun _ => true) true n f.type [V i] = some y) :
    ∃ (a : AC) (ka : Option Addr) (kn kc : Nat) (Z : Nat → Int), ActIs W a ka kn Z ∧ V 0 = .int .i64 a.kind ∧ V 1 = .int .i64 a.n ∧ V 2 = .string a.name ∧ V 3 = .string a.arg ∧ V 4 = .bool a.half ∧ V 5 = .slice ka kn kc := by
  have he := Try.underlying36
  rw [he] at hu
  injection hu with hu
  injection hu with hu
  subst hu
  obtain ⟨n0, y0, t0⟩ := h 0 _ rfl
  obtain ⟨n1, y1, t1⟩ := h 1 _ rfl
  obtain ⟨n2, y2, t2⟩ := h 2 _ rfl
  obtain ⟨n3, y3, t3⟩ := h 3 _ rfl
  obtain ⟨n4, y4, t4⟩ := h 4 _ rfl
  obtain ⟨n5, y5, t5⟩ := h 5 _ rfl
  obtain ⟨kind, e0, _, _⟩ := DataW.trod_int Try.underlying3 t0
  obtain ⟨n, e1, _, wn⟩ := DataW.trod_int Try.underlying3 t1
  obtain ⟨name, e2, _, s2⟩ := DataW.trod_string Try.underlying9 t2
  obtain ⟨arg, e3, _, s3⟩ := DataW.trod_string Try.underlying9 t3
  obtain ⟨half, e4, _⟩ := DataW.trod_bool Try.underlying4 t4
  obtain ⟨ka, kn, kc, Z, e5, hkn, hZ⟩ := cell_ints Try.underlying34 Try.underlying3 (by kernel_rfl) t5
  simp at e0 e1 e2 e3 e4
  exact ⟨⟨kind, n, name, arg, half, keepOf kn Z⟩, ka, kn, kc, Z, ⟨s2, s3, i64_in wn, fun j hj => (hZ j hj).1, hkn, rfl⟩, e0, e1, e2, e3, e4, e5⟩
instance : Inhabited AC := ⟨⟨0, 0, ⟨#[]⟩, ⟨#[]⟩, false, fun _ => none⟩⟩
structure Slot where
  a : AC
  ka : Option Addr
  kn : Nat
  kc : Nat
  Z : Nat → Int
instance : Inhabited Slot := ⟨⟨default, none, 0, 0, fun _ => 0⟩⟩
set_option maxRecDepth 100000 in
/-- The acts of a slice that came in. -/
theorem acts_of {H : Type} {enc : TypeId × Value → H} {W : World} {a : Option Addr} {len : Nat} {V : Nat → Nat → Value} {fs : Array Field} (hu : Try.prog.underlying 36 = some (.struct fs))
    (h : ∀ j, j < len → (∃ b off, a = some ⟨b, off, none⟩ ∧ b < W.heap.size ∧ ∀ i, i < fs.size → W.cell? ⟨b, off + (j * fs.size + i), none⟩ = some (V j i)) ∧
      ∀ (i : Nat) (f : Field), fs[i]? = some f → ∃ n y, DataW.trod enc Try.prog W 0 (fun _ => true) true n f.type [V j i] = some y) :
    ∃ (A : Nat → AC) (KA : Nat → Option Addr) (KN KC : Nat → Nat) (KZ : Nat → Nat → Int), Acts W a len A KA KN KC KZ := by
  have h6 : fs.size = 6 := by
    have he := Try.underlying36
    rw [he] at hu
    injection hu with hu
    injection hu with hu
    rw [← hu]
    rfl
  obtain ⟨F, hF⟩ := choose_lt (α := Slot) (n := len) (p := fun j (s : Slot) => ActIs W s.a s.ka s.kn s.Z ∧ V j 0 = .int .i64 s.a.kind ∧ V j 1 = .int .i64 s.a.n ∧ V j 2 = .string s.a.name ∧ V j 3 = .string s.a.arg ∧ V j 4 = .bool s.a.half ∧ V j 5 = .slice s.ka s.kn s.kc) (fun j hj => by
    obtain ⟨x, ka, kn, kc, Z, r⟩ := act_of hu (h j hj).2
    exact ⟨⟨x, ka, kn, kc, Z⟩, r⟩)
  refine ⟨fun j => (F j).a, fun j => (F j).ka, fun j => (F j).kn, fun j => (F j).kc, fun j => (F j).Z, ⟨fun j hj => (hF j hj).1, fun j hj => ?_⟩⟩
  obtain ⟨⟨b, off, e, hlt, hc⟩, _⟩ := h j hj
  obtain ⟨_, v0, v1, v2, v3, v4, v5⟩ := hF j hj
  rw [h6] at hc
  have c0 := hc 0 (by omega); have c1 := hc 1 (by omega); have c2 := hc 2 (by omega); have c3 := hc 3 (by omega); have c4 := hc 4 (by omega); have c5 := hc 5 (by omega)
  rw [v0] at c0; rw [v1] at c1; rw [v2] at c2; rw [v3] at c3; rw [v4] at c4; rw [v5] at c5
  rw [Nat.add_zero] at c0
  rw [← Nat.add_assoc] at c1 c2 c3 c4 c5
  exact ⟨b, off, e, hlt, c0, c1, c2, c3, c4, c5⟩
theorem acts_below {w w' : World} {aa : Option Addr} {an : Nat} {A : Nat → AC} {KA : Nat → Option Addr} {KN KC : Nat → Nat} {KZ : Nat → Nat → Int} (h : Acts w aa an A KA KN KC KZ) (hb : Below w.heap.size w w') : Acts w' aa an A KA KN KC KZ :=
  ⟨fun j hj => ⟨(h.is j hj).name, (h.is j hj).arg, (h.is j hj).n, ints_below (h.is j hj).ints hb, (h.is j hj).few, (h.is j hj).keep⟩, fun j hj => by
    obtain ⟨b, off, e, hlt, c0, c1, c2, c3, c4, c5⟩ := h.cells j hj
    have k := (bcell hb).1
    exact ⟨b, off, e, Nat.lt_of_lt_of_le hlt hb.size, (k b _ hlt).trans c0, (k b _ hlt).trans c1, (k b _ hlt).trans c2, (k b _ hlt).trans c3, (k b _ hlt).trans c4, (k b _ hlt).trans c5⟩⟩
end Go.Proofs.Ytflkglnmenbmaaa.Disk
