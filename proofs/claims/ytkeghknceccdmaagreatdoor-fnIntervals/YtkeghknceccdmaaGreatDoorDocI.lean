/- How the program lays fields into the body of a document, and what it answers of the document made so. -/
import Derived.Test.YtkeghknceccdmaaGreatDoorDocM
import Derived.Test.YtkeghknceccdmaaGreatDoorAppB
import Derived.Test.YtkeghknceccdmaaGreatDoorListJ
import Derived.Test.YtkeghknceccdmaaGreatDoorFindW
import Derived.Lib.Hide
namespace Go.Proofs.YtkeghknceccdmaaGreatDoor
open Go.RowKit
set_option linter.unusedVariables false

/-- A field as the program holds it. -/
abbrev aggF (f : Fld) : Value := .agg #[.string f.name, .int .i64 f.v.k, .int .i64 f.v.n, .string f.v.t]
def LaidF (w : World) (base : Nat) (zs : List Int) (e : Ending) (w' : World) : Prop := ∃ v', e = .returned v' ∧ OwnE w' base v' zs ∧ Below base w w'
theorem LaidF.mk {w : World} {base : Nat} {zs : List Int} {e : Ending} {w' : World} (v' : Value) (h : e = .returned v') (ho : OwnE w' base v' zs) (hb : Below base w w') : LaidF w base zs e w' := ⟨v', h, ho, hb⟩
theorem cellsE (t : ByteArray) : Lib.byteCells t.data.toList = rowE (bytesI t) := (rowE_text t).symm
set_option maxRecDepth 4000 in
set_option maxHeartbeats 2000000 in
theorem appendField_any (f : Fld) (h : okB f.v = true) (hn : f.name.size ≤ 12) (bv : Value) (zs : List Int) (base : Nat) (w : World) (hown : OwnE w base bv zs) (hbase : base ≤ w.heap.size) (hlen : zs.length ≤ 900000) :
    Calls Tryz.prog 121 #[bv, aggF f] w fun e w' => LaidF w base (zs ++ encF f) e w' := by
  have hw3 : IntKind.u8.wrap (f.name.size : Int) = f.name.size := by simp only [IntKind.wrap, IntKind.bits, IntKind.signed]; simp; omega
  have HO : Hid (World.ownsRow _ _ _ _ _ _ _) := World.ownsRow.alloc hown (.cells #[.string f.name, .int .i64 f.v.k, .int .i64 f.v.n, .string f.v.t] 39)
  have HK : Hid _ := h
  clear hown h
  go_enter Tryz.func121, Tryz.ntmps121
  go_wp2_with (at_builtin; refine app_byte rfl (.tmp 5) (.tmp 10) rfl base zs.length bv (rowE zs) (f.name.size : Int) _ rfl rfl (by simp) HO.out (by simp; omega) (by omega) ?_; intro v1 w1 o1 b1 k1; refine Hid.out ?_)
  refine Lib.hid ?_
  have HK1 : Hid (Kept _ _) := k1
  have HO1 : Hid (World.ownsRow _ _ _ _ _ _ _) := o1
  have c0 : w1.cell? ⟨w.heap.size, 0, none⟩ = some (.string f.name) := kept_new k1 (by decide) 0
  have hz1 := b1.size
  have HB1 : Hid (Below base w w1) := ((Below.refl _ _).alloc hbase _).trans b1
  rw [heap_size_alloc] at hz1
  clear o1 b1 k1
  go_wp2_with (at_builtin; refine app_str rfl (.tmp 12) (.tmp 14) rfl base _ _ _ f.name rfl rfl HO1.out (by omega) (by omega) (by omega) ?_; intro v2 w2 o2 b2 k2; refine Hid.out ?_)
  refine Lib.hid ?_
  have k3 := HK1.out.trans k2
  have c1 : w2.cell? ⟨w.heap.size, 1, none⟩ = some (.int .i64 f.v.k) := kept_new k3 (by decide) 1
  have c2 : w2.cell? ⟨w.heap.size, 2, none⟩ = some (.int .i64 f.v.n) := kept_new k3 (by decide) 2
  have c3 : w2.cell? ⟨w.heap.size, 3, none⟩ = some (.string f.v.t) := kept_new k3 (by decide) 3
  have hz2 := b2.size
  have HO2 : Hid (OwnE w2 base v2 (zs ++ [(f.name.size : Int)] ++ bytesI f.name)) := by
    show w2.ownsRow _ _ _ _ _ _
    rw [rowE_append, rowE_append, List.length_append, List.length_append, bytesI_len, ← cellsE]; exact o2
  have HB2 : Hid (Below base w w2) := HB1.out.trans b2
  clear o2 b2 k2 k3 c0
  go_wp2_with fail
  refine (appendValue_any f.v HK.out v2 _ base w2 HO2.out (by omega) (by simp only [List.length_append, bytesI_len, List.length_cons, List.length_nil]; omega)).mono ?_
  rintro e w3 ⟨v3, rfl, o3, g3, n3⟩
  have hb : Below base w w3 := Below.grown HB2.out g3 (by omega) (owns_block HO2.out)
  have e : zs ++ encF f = zs ++ [(f.name.size : Int)] ++ bytesI f.name ++ encB f.v := by
    unfold encF
    rw [numB_one, nb_zero, Int.emod_eq_of_lt (by omega) (by omega)]
    simp
  have HO3 : Hid (OwnE w3 base v3 (zs ++ encF f)) := by rw [e]; exact o3
  clear o3 g3 n3 e
  go_wp2_with fail
  go_ret
  exact LaidF.mk v3 rfl HO3.out hb

set_option maxRecDepth 4000 in
set_option maxHeartbeats 2000000 in
theorem docWith_any (p : Option Addr) (cap : Nat) (l : List Fld) (w : World) (hr : RowF w p l) (hl : l.length ≤ 300) (hg : GoodF l) :
    Calls Tryz.prog 57 #[.slice p l.length cap] w fun e w' => e = .returned (.agg #[.int .i64 5, .int .i64 0, .string (txt (encFL l))]) ∧ Below w.heap.size w w' := by
  have HR : Hid (RowF _ _ _) := hr
  have HA : Hid (GoodF _) := hg
  have X0 := Res3.start w (.int .i64 0) (.int .i64 0) (.string em) 28
  have HX : Hid _ := X0
  obtain ⟨w0, hw0⟩ : ∃ w0, w0 = w.alloc (.cells #[.int .i64 0, .int .i64 0, .string em] 28) := ⟨_, rfl⟩
  rw [← hw0] at HX
  have HW : Hid _ := hw0
  clear hr hg X0
  go_enter Tryz.func57, Tryz.ntmps57
  go_wp2_with fail
  clear hw0
  go_loopw [3, 8] (fun u i wr => ∃ k : Nat, k ≤ l.length ∧ i = .int .i64 k ∧ OwnE wr w0.heap.size u (encFL (l.take k)) ∧ Below w0.heap.size w0 wr) (fun _ i _ => l.length - (intOf i).toNat)
  case atStart => exact ⟨0, Nat.zero_le _, rfl, World.ownsRow_nil _ _ _ _, by rw [← HW.out]; exact Below.refl _ _⟩
  case round =>
    obtain ⟨k, hk, rfl, hown, hbel⟩ := hrel
    have X1 := HX.out.step hbel
    have hz := hbel.size
    have hz0 := HX.out.lt
    by_cases hlt : k < l.length
    · rcases HR.out.next X1.bel with h0 | ⟨g, rfl, R⟩
      · subst h0; simp at hlt
      · obtain ⟨x0, x1, x2, x3⟩ := R.cells k hlt
        have hlen : (encFL (l.take k)).length ≤ 900000 := by have := encFL_take_len l HA.out.names k hl; omega
        have hf := HA.out.all l[k] (List.getElem_mem _)
        have HK : Hid _ := hf.2
        have hns := short_size hf.1
        have HO : Hid (OwnE _ _ _ _) := hown
        have HB : Hid _ := hbel
        have hgl := R.lt
        clear hown hbel X1 hf R
        go_wp2_with fail
        refine (appendField_any l[k] HK.out hns _ _ w0.heap.size _ (by have := HO.out; unfold OwnE at this ⊢; exact this.alloc _) (by simp; omega) hlen).mono ?_
        rintro e w1 ⟨v', rfl, hown1, hb1⟩
        have hb : Below w0.heap.size w0 w1 := (HB.out.alloc hz _).trans hb1
        have HO1 : Hid (OwnE _ _ _ _) := hown1
        clear hb1 hown1
        go_wp2_with fail
        go_roundw
        case rel => exact ⟨k + 1, by omega, by go_num, by rw [encFL_take l k hlt]; exact HO1.out, hb⟩
        case measure => simp [intOf]; omega
    · have e : l.take k = l := List.take_of_length_le (by omega)
      rw [e] at hown
      have hconv := convA _ _ _ _ hown
      have g0 := X1.c0
      have g1 := X1.c1
      have g2 := X1.c2
      have z0 := X1.z0
      have z1 := X1.z1
      have z2 := X1.z2
      have hlt1 := X1.lt
      have hbw := X1.bel
      clear X1 hbel hown
      go_wp2_with fail
      refine bodyPost_ret (v := .agg #[.int .i64 5, .int .i64 0, .string (txt (encFL l))]) (by simp [results, Tryz.results57, go_sem, *]) rfl ⟨rfl, ?_⟩
      (repeat (first | (with_reducible exact Below.refl _ _) | (with_reducible assumption) | (with_reducible apply below_drewN) | (with_reducible apply Below.drew) | ((with_reducible refine Below.setCell ?_ ?_ _); rotate_left; focus (first | (simp; done) | (simp; omega) | omega)) | ((with_reducible refine Below.alloc ?_ ?_ _); rotate_left; focus (first | (simp; done) | (simp; omega) | omega))))

theorem bounded_doc (l : List Fld) (w : World) (hl : l.length ≤ 300) (hg : GoodF l) :
    Calls Tryz.prog 56 #[.agg #[.int .i64 5, .int .i64 0, .string (txt (encFL l))]] w fun e w' => e = .returned (.tuple #[aggV (fitD l).1, .int .i64 (fitD l).2]) ∧ Below w.heap.size w w' := by
  have hs : (txt (encFL l)).size = (encFL l).length := txt_size _
  have hm := encFL_len l hg.names
  by_cases h : 300 < (encFL l).length
  · rw [fitD_size l h]; exact bounded_size 5 0 _ w (by omega) (by omega)
  · obtain ⟨hf, hd⟩ := madeD_fits l hg h
    by_cases h2 : 4 < dF (depthV 5) l
    · rw [fitD_deep l h h2]
      exact bounded_deep ⟨5, 0, txt (encFL l)⟩ w (by show (txt (encFL l)).size ≤ 300; omega) hf (by omega)
    · rw [fitD_ok l h h2]
      exact bounded_ok ⟨5, 0, txt (encFL l)⟩ w (by show (txt (encFL l)).size ≤ 300; omega) hf (by omega)
end Go.Proofs.YtkeghknceccdmaaGreatDoor
