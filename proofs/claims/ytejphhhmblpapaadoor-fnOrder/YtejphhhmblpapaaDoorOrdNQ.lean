import Derived.Test.YtejphhhmblpapaaDoorDepthMQ
/- The order of values is one: turned about it is the other sign, and what is not ahead of what is not ahead is not ahead. Nothing of the program is used here. -/
namespace Go.Proofs.YtejphhhmblpapaaDoor
open Go.RowKit
set_option linter.unusedVariables false

structure OrdL {α : Type} (p : α → α → Int) : Prop where
  turn : ∀ x y, p y x = -p x y
  tr : ∀ x y z, p x y ≤ 0 → p y z ≤ 0 → p x z ≤ 0
theorem ordL_int : OrdL cI := by
  constructor
  · intro x y; unfold cI Lib.compareInt; (repeat' split) <;> omega
  · intro x y z; unfold cI Lib.compareInt; (repeat' split) <;> omega
theorem ordL_byte : OrdL (fun a b : UInt8 => cI a.toNat b.toNat) := ⟨fun x y => ordL_int.turn _ _, fun x y z => ordL_int.tr _ _ _⟩
theorem OrdL.lex {α : Type} {p : α → α → Int} (h : OrdL p) : OrdL (lexG p) := by
  constructor
  · intro xs
    induction xs with
    | nil => intro ys; cases ys <;> simp [lexG]
    | cons x xs ih =>
      intro ys
      cases ys with
      | nil => simp [lexG]
      | cons y ys =>
        have := h.turn x y
        have i := ih ys
        unfold lexG
        (repeat' split) <;> omega
  · intro xs
    induction xs with
    | nil => intro ys zs; cases ys <;> cases zs <;> simp [lexG]
    | cons x xs ih =>
      intro ys zs
      cases ys with
      | nil => simp [lexG]
      | cons y ys =>
        cases zs with
        | nil => simp [lexG]
        | cons z zs =>
          have i := ih ys zs
          have t1 := h.turn x y
          have t2 := h.turn y z
          have t3 := h.turn x z
          have r1 := h.tr x y z
          have r2 := h.tr y z x
          have r3 := h.tr z x y
          have r4 := h.tr z y x
          have r5 := h.tr y x z
          have r6 := h.tr x z y
          unfold lexG
          (repeat' split) <;> omega
theorem compare_lex : ∀ a b : List UInt8, Lib.compareBytes a b = lexG (fun a b : UInt8 => cI a.toNat b.toNat) a b
  | [], [] => rfl
  | [], _ :: _ => rfl
  | _ :: _, [] => rfl
  | a :: l, b :: m => by
    have ih := compare_lex l m
    unfold Lib.compareBytes lexG
    rw [ih]
    unfold cI Lib.compareInt
    simp only [UInt8.lt_iff_toNat_lt]
    (repeat' split) <;> omega
theorem ordL_bytes : OrdL cB := by
  have h := ordL_byte.lex
  constructor
  · intro x y; unfold cB; rw [compare_lex, compare_lex]; exact h.turn _ _
  · intro x y z; unfold cB; rw [compare_lex, compare_lex, compare_lex]; exact h.tr _ _ _
theorem OrdL.fld {p : Val → Val → Int} (h : OrdL p) : OrdL (cF p) := by
  constructor
  · intro x y
    have t := ordL_bytes.turn x.name y.name
    have i := h.turn x.v y.v
    unfold cF
    (repeat' split) <;> omega
  · intro x y z
    have t1 := ordL_bytes.turn x.name y.name
    have t2 := ordL_bytes.turn y.name z.name
    have t3 := ordL_bytes.turn x.name z.name
    have r1 := ordL_bytes.tr x.name y.name z.name
    have r2 := ordL_bytes.tr y.name z.name x.name
    have r3 := ordL_bytes.tr z.name x.name y.name
    have r4 := ordL_bytes.tr z.name y.name x.name
    have r5 := ordL_bytes.tr y.name x.name z.name
    have r6 := ordL_bytes.tr x.name z.name y.name
    have i := h.tr x.v y.v z.v
    unfold cF
    (repeat' split) <;> omega
/-- By kind, by number, then by what the kind says. -/
theorem ordL_val (q : Int → Val → Val → Int) (h : ∀ k, OrdL (q k)) : OrdL (fun a b : Val => if a.k ≠ b.k then cI a.k b.k else if a.n ≠ b.n then cI a.n b.n else q a.k a b) := by
  have ci : ∀ x y : Int, cI x y = if x < y then -1 else if x = y then 0 else 1 := by intro x y; unfold cI Lib.compareInt; (repeat' split) <;> omega
  constructor
  · intro x y
    have i := (h x.k).turn x y
    simp only [ci]
    by_cases e : x.k = y.k
    · rw [← e]
      (repeat' split) <;> omega
    · (repeat' split) <;> omega
  · intro x y z
    have i := (h x.k).tr x y z
    simp only [ci]
    by_cases e : x.k = y.k
    · rw [← e]
      by_cases e2 : x.k = z.k
      · rw [← e2]
        (repeat' split) <;> omega
      · (repeat' split) <;> omega
    · (repeat' split) <;> omega
theorem ordL_ordV : ∀ d, OrdL (ordV d)
  | 0 => by
    have := ordL_val (fun _ a b => cB a.t b.t) (fun _ => ⟨fun x y => ordL_bytes.turn _ _, fun x y z => ordL_bytes.tr _ _ _⟩)
    exact this
  | d + 1 => by
    have ih := ordL_ordV d
    have h1 := ih.lex
    have h2 := ih.fld.lex
    have := ordL_val (fun k a b => if k = 4 then lexG (ordV d) ((items a.t).getD []) ((items b.t).getD []) else if k = 5 then lexG (cF (ordV d)) ((fields a.t).getD []) ((fields b.t).getD []) else cB a.t b.t) (fun k => by
      constructor
      · intro x y
        (repeat' split)
        · exact h1.turn _ _
        · exact h2.turn _ _
        · exact ordL_bytes.turn _ _
      · intro x y z
        (repeat' split)
        · exact h1.tr _ _ _
        · exact h2.tr _ _ _
        · exact ordL_bytes.tr _ _ _)
    exact this

end Go.Proofs.YtejphhhmblpapaaDoor
