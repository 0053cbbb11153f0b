/- What the specification's making of documents answers, for every row of fields with right values. -/
import Derived.Test.YtkeghknceccdmaaGreatDoorListAQ
import Derived.Test.YtkeghknceccdmaaGreatDoorOwnQ
import Derived.Deep.RegionWith
import Derived.Deep.DeepCutAuto
namespace Go.Proofs.YtkeghknceccdmaaGreatDoor
open Go.RowKit
set_option linter.unusedVariables false

/-- The bytes of fields one behind the other. -/
def encFL (l : List Fld) : List Int := l.flatMap encF
theorem encFL_take (l : List Fld) (k : Nat) (h : k < l.length) : encFL (l.take (k + 1)) = encFL (l.take k) ++ encF l[k] := by
  unfold encFL; rw [List.take_succ_eq_append_getElem h, List.flatMap_append, List.flatMap_singleton]
theorem encF_len (f : Fld) (h : okB f.v = true ∧ f.name.size < 256) : (encF f).length ≤ 700 := by
  unfold encF
  have := (encB_len f.v h.1).2
  rw [List.length_append, List.length_append, numB_len, bytesI_len]; omega
theorem encFL_len (l : List Fld) (h : ∀ f ∈ l, okB f.v = true ∧ f.name.size < 256) : (encFL l).length ≤ l.length * 700 := by
  induction l with
  | nil => simp [encFL]
  | cons f l ih =>
    have h1 := encF_len f (h f (by simp))
    have h2 := ih (fun u hu => h u (by simp [hu]))
    unfold encFL at h2 ⊢
    rw [List.flatMap_cons, List.length_append, List.length_cons]; omega
theorem encFL_take_len (l : List Fld) (h : ∀ f ∈ l, okB f.v = true ∧ f.name.size < 256) (k : Nat) (hl : l.length ≤ 300) : (encFL (l.take k)).length ≤ 210000 := by
  have := encFL_len (l.take k) (fun v hv => h v (List.mem_of_mem_take hv))
  have h2 : (l.take k).length ≤ l.length := by simp; omega
  omega
theorem encF_txt (f : Fld) : txt (encF f) = txt (numB f.name.size 1) ++ f.name ++ txt (encB f.v) := by
  unfold encF; rw [txt_append, txt_append, txt_bytes]

theorem keep4 {W W' : World} {g k : Nat} {a b c d : Value} (hb : Below W.heap.size W W') (hg : g < W.heap.size) (h : W.cell? ⟨g, k * 4, none⟩ = some a ∧ W.cell? ⟨g, k * 4 + 1, none⟩ = some b ∧ W.cell? ⟨g, k * 4 + 2, none⟩ = some c ∧ W.cell? ⟨g, k * 4 + 3, none⟩ = some d) :
    W'.cell? ⟨g, k * 4, none⟩ = some a ∧ W'.cell? ⟨g, k * 4 + 1, none⟩ = some b ∧ W'.cell? ⟨g, k * 4 + 2, none⟩ = some c ∧ W'.cell? ⟨g, k * 4 + 3, none⟩ = some d :=
  ⟨(hb.cell (p := ⟨g, k * 4, none⟩) hg).trans h.1, (hb.cell (p := ⟨g, k * 4 + 1, none⟩) hg).trans h.2.1, (hb.cell (p := ⟨g, k * 4 + 2, none⟩) hg).trans h.2.2.1, (hb.cell (p := ⟨g, k * 4 + 3, none⟩) hg).trans h.2.2.2⟩
set_option maxRecDepth 4000 in
set_option maxHeartbeats 2000000 in
theorem l01Doc_any (g cap : Nat) (l : List Fld) (w : World) (hr : ReadF w g l) (hl : l.length ≤ 300) (hall : ∀ f ∈ l, okB f.v = true ∧ f.name.size < 256) :
    Calls Tryz.prog 174 #[.slice (some ⟨g, 0, none⟩) l.length cap] w fun e w' => e = .returned (.agg #[.int .i64 5, .int .i64 0, .string (txt (encFL l))]) ∧ Below w.heap.size w w' := by
  have HR : Hid _ := hr
  have HA : Hid _ := hall
  clear hr hall
  go_enter Tryz.func174, Tryz.ntmps174
  go_wp2_with fail
  go_loopw [3, 4] (fun u i wr => ∃ k : Nat, k ≤ l.length ∧ i = .int .i64 k ∧ u = .string (txt (encFL (l.take k))) ∧ Res3 w wr (.int .i64 0) (.int .i64 0) (.string em)) (fun _ i _ => l.length - (intOf i).toNat)
  case atStart => exact ⟨0, Nat.zero_le _, rfl, rfl, Res3.start w _ _ _ _⟩
  case round =>
    obtain ⟨k, hk, rfl, rfl, X0⟩ := hrel
    have hbel := X0.bel
    have hz := hbel.size
    by_cases hlt : k < l.length
    · have R := (HR.out.next hbel)
      obtain ⟨x0, x1, x2, x3⟩ := R.cells k hlt
      have hgl := R.lt
      have hok := HA.out l[k] (List.getElem_mem _)
      have HK : Hid _ := hok.1
      have hnm := hok.2
      have hsz : (txt (encFL (l.take k))).size ≤ 210000 := by rw [txt_size]; exact encFL_take_len l HA.out k hl
      have hsz2 : (txt (encB l[k].v)).size ≤ 400 := by rw [txt_size]; exact (encB_len _ hok.1).2
      have hsz3 : (txt (numB l[k].name.size 1)).size = 1 := by rw [txt_size, numB_len]
      have hsz4 : (txt (numB l[k].name.size 1) ++ l[k].name).size ≤ 256 := by rw [ByteArray.size_append]; omega
      have hsz5 : (txt (numB l[k].name.size 1) ++ l[k].name ++ txt (encB l[k].v)).size ≤ 656 := by rw [ByteArray.size_append]; omega
      have hcon1 : ¬ 9223372036854775807 < (txt (numB l[k].name.size 1)).size + l[k].name.size := by omega
      have hcon2 : ¬ 9223372036854775807 < 1 + l[k].name.size := by omega
      have hcon3 : ¬ 9223372036854775807 < (txt (numB l[k].name.size 1) ++ l[k].name).size + (txt (encB l[k].v)).size := by omega
      have hcon4 : ¬ 9223372036854775807 < 1 + l[k].name.size + (txt (encB l[k].v)).size := by omega
      have hcon5 : ¬ 9223372036854775807 < (txt (encFL (l.take k))).size + (txt (numB l[k].name.size 1) ++ l[k].name ++ txt (encB l[k].v)).size := by omega
      have hcon6 : ¬ 9223372036854775807 < (txt (encFL (l.take k))).size + (1 + l[k].name.size + (txt (encB l[k].v)).size) := by omega
      have hcat : txt (encFL (l.take (k + 1))) = txt (encFL (l.take k)) ++ (txt (numB l[k].name.size 1) ++ l[k].name ++ txt (encB l[k].v)) := by rw [encFL_take l k hlt, txt_append, encF_txt]
      have HCAT : Hid (_ = _) := hcat
      clear hok R hcat
      go_wp2_with fail
      go_region_with (first
        | (go_at_call 135; refine (l01Number_any _ 1 _ (by omega)).mono ?_; rintro e w1 ⟨rfl, hb1⟩; have B1 : Below wr.heap.size wr w1 := Below.trans (by (repeat (first | (with_reducible exact Below.refl _ _) | (with_reducible assumption) | (with_reducible apply below_drewN) | (with_reducible apply Below.drew) | ((with_reducible refine Below.setCell ?_ ?_ _); rotate_left; focus (first | (simp; done) | (simp; omega) | omega)) | ((with_reducible refine Below.alloc ?_ ?_ _); rotate_left; focus (first | (simp; done) | (simp; omega) | omega))))) (hb1.mono (by first | omega | (simp; done) | (simp; omega))); have hzz1 := B1.size; have hg1 : g < w1.heap.size := Nat.lt_of_lt_of_le (by first | omega | (simp; omega)) hb1.size; obtain ⟨y0, y1, y2, y3⟩ := keep4 hb1 (by first | omega | (simp; omega)) (by first | exact ⟨x0, x1, x2, x3⟩ | exact ⟨v0, v1, v2, v3⟩))
        | (go_at_call 173; refine (l01Encode_any l[k].v HK.out _).mono ?_; rintro e w2 ⟨rfl, hb2⟩; have B2 : Below wr.heap.size wr w2 := Below.trans (by (repeat (first | (with_reducible exact Below.refl _ _) | (with_reducible assumption) | (with_reducible apply below_drewN) | (with_reducible apply Below.drew) | ((with_reducible refine Below.setCell ?_ ?_ _); rotate_left; focus (first | (simp; done) | (simp; omega) | omega)) | ((with_reducible refine Below.alloc ?_ ?_ _); rotate_left; focus (first | (simp; done) | (simp; omega) | omega))))) (hb2.mono (by first | omega | (simp; done) | (simp; omega))); have hzz2 := B2.size; have hg2 : g < w2.heap.size := Nat.lt_of_lt_of_le (by first | omega | (simp; omega)) hb2.size; obtain ⟨v0, v1, v2, v3⟩ := keep4 hb2 (by first | omega | (simp; omega)) (by first | exact ⟨x0, x1, x2, x3⟩ | exact ⟨y0, y1, y2, y3⟩)))
      all_goals
        clear x0 x1 x2 x3 hb1 hb2
        go_wp2_with fail
        go_roundw
        case rel => exact ⟨k + 1, by omega, by go_num, by rw [HCAT.out], X0.step (by (repeat (first | (with_reducible exact Below.refl _ _) | (with_reducible assumption) | (with_reducible apply below_drewN) | (with_reducible apply Below.drew) | ((with_reducible refine Below.setCell ?_ ?_ _); rotate_left; focus (first | (simp; done) | (simp; omega) | omega)) | ((with_reducible refine Below.alloc ?_ ?_ _); rotate_left; focus (first | (simp; done) | (simp; omega) | omega)))))⟩
        case measure => simp [intOf]; omega
    · have g0 := X0.c0
      have g1 := X0.c1
      have g2 := X0.c2
      have z0 := X0.z0
      have z1 := X0.z1
      have z2 := X0.z2
      have hlt1 := X0.lt
      clear X0
      have e : l.take k = l := List.take_of_length_le (by omega)
      rw [e]
      go_wp2_with fail
      refine bodyPost_ret (v := .agg #[.int .i64 5, .int .i64 0, .string (txt (encFL l))]) (by simp [results, Tryz.results174, go_sem, *]) rfl ⟨rfl, ?_⟩
      (repeat (first | (with_reducible exact Below.refl _ _) | (with_reducible assumption) | (with_reducible apply below_drewN) | (with_reducible apply Below.drew) | ((with_reducible refine Below.setCell ?_ ?_ _); rotate_left; focus (first | (simp; done) | (simp; omega) | omega)) | ((with_reducible refine Below.alloc ?_ ?_ _); rotate_left; focus (first | (simp; done) | (simp; omega) | omega))))

end Go.Proofs.YtkeghknceccdmaaGreatDoor
