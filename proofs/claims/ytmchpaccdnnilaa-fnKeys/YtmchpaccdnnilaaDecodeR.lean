/- What the program's reading of a value from its bytes answers, for every row of bytes that can be read. -/
import Derived.Test.YtmchpaccdnnilaaLawB
import Derived.Test.YtmchpaccdnnilaaEncV
namespace Go.Proofs.Ytmchpaccdnnilaa
open Go.RowKit
set_option linter.unusedVariables false

/-- Block number B of W holds three cells that may be written. -/
structure BlkR (W : World) (B : Nat) (a b c : Value) : Prop where
  lt : B < W.heap.size
  c0 : W.cell? ⟨B, 0, none⟩ = some a
  c1 : W.cell? ⟨B, 1, none⟩ = some b
  c2 : W.cell? ⟨B, 2, none⟩ = some c
  z0 : W.frozen? ⟨B, 0, none⟩ = false
  z1 : W.frozen? ⟨B, 1, none⟩ = false
  z2 : W.frozen? ⟨B, 2, none⟩ = false
theorem BlkR.new (w : World) (a b c : Value) (T : TypeId) : BlkR (w.alloc (.cells #[a, b, c] T)) w.heap.size a b c :=
  ⟨by simp, by simp [go_sem], by simp [go_sem], by simp [go_sem], by simp [go_sem], by simp [go_sem], by simp [go_sem]⟩
theorem BlkR.step {W W' : World} {B : Nat} {a b c : Value} (h : BlkR W B a b c) (hb : Below W.heap.size W W') : BlkR W' B a b c :=
  ⟨Nat.lt_of_lt_of_le h.lt hb.size, (hb.cell h.lt).trans h.c0, (hb.cell h.lt).trans h.c1, (hb.cell h.lt).trans h.c2, (hb.frozen h.lt).trans h.z0, (hb.frozen h.lt).trans h.z1, (hb.frozen h.lt).trans h.z2⟩
theorem BlkR.alloc {W : World} {B : Nat} {a b c : Value} (h : BlkR W B a b c) (o : Obj) : BlkR (W.alloc o) B a b c := h.step ((Below.refl _ _).alloc (Nat.le_refl _) _)

theorem conv_atR (g c : Nat) (zs : List Int) (w : World) (hown : ReadE w g zs) : (convert 22 9 (.slice (some ⟨g, 0, none⟩) zs.length c)).run Try.prog w = .ok (.string (strOfNums zs)) w :=
  run_convert_bytes_arg w 22 5 Try.underlying22 Try.underlying5 g 0 zs.length c zs rfl (fun i hi => by rw [Nat.zero_add]; exact hown.2 i hi) 9 Try.underlying9

/-- What reading a value from bytes comes to. -/
def decR (zs : List Int) : Val × Int :=
  if 65536 < zs.length then (⟨0, 0, em⟩, 2)
  else match cutV (strOfNums zs) with
    | none => (⟨0, 0, em⟩, 3)
    | some p => if 0 < p.2.size then (⟨0, 0, em⟩, 3) else if okB p.1 then (p.1, 0) else (⟨0, 0, em⟩, 3)
end Go.Proofs.Ytmchpaccdnnilaa
