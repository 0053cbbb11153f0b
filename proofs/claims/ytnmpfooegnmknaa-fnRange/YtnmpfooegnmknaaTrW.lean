/- Where an entry's page is: what the program answers. -/
import Derived.Test.YtnmpfooegnmknaaTrV
namespace Go.Proofs.Ytnmpfooegnmknaa.Tr
open Go.RowKit
set_option linter.unusedVariables false

theorem infoQ : (Try.prog.info? 91).map (fun i => (i.zero, i.size, i.bytes)) = some (some (.pointer none), 1, 8) := by kernel_rfl
/-- The page that stands at an address. -/
def PageAtA (w : World) (b o : Nat) (p : Pg) : Prop := b < w.heap.size ∧ w.cell? ⟨b, o, none⟩ = some (.int .i64 p.num) ∧ ∃ q c, w.cell? ⟨b, o + 1, none⟩ = some (.slice q p.es.length c) ∧ InE w q p.es
theorem PageAtA.next {w w' : World} {b o : Nat} {p : Pg} (h : PageAtA w b o p) (hb : Below w.heap.size w w') : PageAtA w' b o p := by
  obtain ⟨h1, h2, q, c, h3, h4⟩ := h
  exact ⟨Nat.lt_of_lt_of_le h1 hb.size, (hb.cell h1).trans h2, q, c, (hb.cell h1).trans h3, h4.step hb⟩
/-- A row of pointers to pages. -/
structure PtrP (w : World) (g : Nat) (f : List Pg) : Prop where
  lt : g < w.heap.size
  cells : ∀ i (h : i < f.length), ∃ b o, w.cell? ⟨g, i, none⟩ = some (.pointer (some ⟨b, o, none⟩)) ∧ PageAtA w b o f[i]
theorem PtrP.next {w w' : World} {g : Nat} {f : List Pg} (h : PtrP w g f) (hb : Below w.heap.size w w') : PtrP w' g f :=
  ⟨Nat.lt_of_lt_of_le h.lt hb.size, fun i hi => by
    obtain ⟨b, o, h1, h2⟩ := h.cells i hi
    exact ⟨b, o, (hb.cell h.lt).trans h1, h2.next hb⟩⟩
def ptrsOf (g n : Nat) : List Value := (List.range n).map fun i => .pointer (some ⟨g, i * 2, none⟩)
theorem ptrsOf_succ (g n : Nat) : ptrsOf g (n + 1) = ptrsOf g n ++ [.pointer (some ⟨g, n * 2, none⟩)] := by unfold ptrsOf; rw [List.range_succ, List.map_append]; rfl
theorem ptrsOf_len (g n : Nat) : (ptrsOf g n).length = n := by unfold ptrsOf; simp
theorem ptrsOf_get (g n i : Nat) (h : i < n) : (ptrsOf g n)[i]? = some (.pointer (some ⟨g, i * 2, none⟩)) := by unfold ptrsOf; simp [h]
theorem ReadP.pageAt {w : World} {g : Nat} {f : List Pg} (h : ReadP w g f) (i : Nat) (hi : i < f.length) : PageAtA w g (i * 2) f[i] := by
  obtain ⟨h0, q, c, h1, h2⟩ := h.cells i hi
  exact ⟨h.lt, h0, q, c, h1, h2⟩

set_option maxRecDepth 4000 in
set_option maxHeartbeats 1000000 in
theorem pointersTo_any (g cap n : Nat) (w : World) (hn : n ≤ 60) :
    Calls Try.prog 56 #[.slice (some ⟨g, 0, none⟩) n cap] w fun e w' => (∃ v, e = .returned v ∧ w'.ownsRow w.heap.size 91 1 v n (ptrsOf g n)) ∧ Below w.heap.size w w' := by
  obtain ⟨i0, hi, hz0, hz1, hz2⟩ := info_parts infoQ
  go_enter Try.func56, Try.ntmps56
  go_wp2_with fail
  go_loopw [3, 7] (fun v i wr => ∃ k : Nat, k ≤ n ∧ i = .int .i64 k ∧ wr.ownsRow w.heap.size 91 1 v k (ptrsOf g k) ∧ Below w.heap.size w wr) (fun _ i _ => n - (intOf i).toNat)
  case atStart => exact ⟨0, Nat.zero_le _, rfl, ⟨rfl, .inl ⟨rfl, rfl⟩⟩, Below.refl _ _⟩
  case round =>
    obtain ⟨k, hk, rfl, hown, hbel⟩ := hrel
    have hsz0 := hbel.size
    by_cases hlt : k < n
    · have hlt2 : (k : Int) < (n : Int) := by omega
      go_wp2_with (at_builtin; refine wpList_append_own_at _ rfl (.tmp 10) (.tmp 14) 88 rfl w.heap.size 91 i0 (.pointer none) 1 8 Try.underlying88 hi hz0 hz1 hz2 rfl (by decide) _ _ _ rfl (hown.alloc _) ⟨wr.heap.size, 0, none⟩ 1 1 [.pointer (some ⟨g, k * 2, none⟩)] rfl rfl ?c1 ?c2 ?c3 ?c4 ?c5 ?_)
      case c1 =>
        intro j u hj
        match j, hj with
        | 0, hj => simp at hj; subst hj; simp [Addr.add, go_sem]
        | j + 1, hj => simp at hj
      case c2 => intro u hu; simp at hu; subst hu; rfl
      case c3 => unfold maxLen; omega
      case c4 => omega
      case c5 => simp; omega
      intro v' w2 hown2 hgrow hnv hat
      have hb2 : Below w.heap.size w w2 := Below.grown (hbel.alloc (by omega) _) hgrow (by simp; omega) (fun q hq => (hown.lt q hq).1)
      rw [← ptrsOf_succ] at hown2
      have HO : Hid (World.ownsRow _ _ _ _ _ _ _) := hown2
      clear hgrow hown hbel hnv hat hown2
      go_wp2_with fail
      go_roundw
      case rel => exact ⟨k + 1, by omega, by go_num, HO.out, hb2⟩
      case measure => simp [intOf]; omega
    · have hlt2 : ¬ (k : Int) < (n : Int) := by omega
      obtain rfl : k = n := by omega
      go_wp2_with fail
      go_ret
      exact ⟨⟨_, rfl, hown⟩, hbel⟩

theorem owns_ptr {w : World} {base n g gp cap : Nat} {v : Value} (h : w.ownsRow base 91 1 v n (ptrsOf g n)) (hv : v = .slice (some ⟨gp, 0, none⟩) n cap) {f : List Pg} (hf : f.length = n) (hr : ReadP w g f) : PtrP w gp f := by
  subst hv
  refine ⟨(h.lt gp rfl).2, fun i hi => ⟨g, i * 2, owns_cell h i _ (ptrsOf_get g n i (by omega)), hr.pageAt i hi⟩⟩
theorem owns_form {w : World} {base n : Nat} {e : TypeId} {size : Nat} {v : Value} {xs : List Value} (h : w.ownsRow base e size v n xs) (hn : 0 < n) : ∃ g cap, v = .slice (some ⟨g, 0, none⟩) n cap ∧ base ≤ g ∧ g < w.heap.size ∧ n ≤ cap ∧ cap ≤ maxLen := by
  have hlt := h.lt
  obtain ⟨h1, h2⟩ := h
  rcases h2 with ⟨_, h3⟩ | ⟨g, cap, cur, hv, hg, hh, hc1, hc2, r⟩
  · omega
  · exact ⟨g, cap, hv, hg, (hlt g (by rw [hv]; rfl)).2, hc1, hc2⟩

set_option maxRecDepth 4000 in
set_option maxHeartbeats 2000000 in
theorem pagePlace_any (g cap : Nat) (f : List Pg) (e : Ent) (w : World) (hr : PtrP w g f) (hl : f.length ≤ 1048576) (h1 : 1 ≤ f.length) (hs : ∀ l ∈ f, l.es.length ≤ 1048576) (hne : 1 < f.length → ∀ l ∈ f, 0 < l.es.length) :
    Calls Try.prog 58 #[.slice (some ⟨g, 0, none⟩) f.length cap, .agg #[.string e.key, .int .i64 e.id]] w fun e' w' => e' = .returned (.int .i64 (place f e : Nat)) ∧ Below w.heap.size w w' := by
  have hb0 : Below w.heap.size w (w.alloc (.cells #[.string e.key, .int .i64 e.id] 40)) := (Below.refl _ _).alloc (Nat.le_refl _) _
  have d0 : (w.alloc (.cells #[.string e.key, .int .i64 e.id] 40)).cell? ⟨w.heap.size, 0, none⟩ = some (.string e.key) := by simp [go_sem]
  have d1 : (w.alloc (.cells #[.string e.key, .int .i64 e.id] 40)).cell? ⟨w.heap.size, 1, none⟩ = some (.int .i64 e.id) := by simp [go_sem]
  have l0 : w.heap.size < (w.alloc (.cells #[.string e.key, .int .i64 e.id] 40)).heap.size := by simp
  have HR : Hid (PtrP _ _ _) := hr.next hb0
  have HS : Hid _ := hs
  have HNE : Hid _ := hne
  clear hr hs hne
  go_enter Try.func58, Try.ntmps58
  go_wp2_with fail
  generalize w.alloc (.cells #[.string e.key, .int .i64 e.id] 40) = W0 at hb0 d0 d1 l0 HR ⊢
  go_loopw [5] (fun i wr => ∃ k : Nat, k < f.length ∧ i = .int .i64 k ∧ place f e = placeU f e (k + 1) ∧ Below W0.heap.size W0 wr) (fun i _ => (intOf i).toNat)
  case atStart => exact ⟨f.length - 1, by omega, by go_num, by unfold place; congr 1; omega, Below.refl _ _⟩
  case round =>
    obtain ⟨k, hk, rfl, hpl, hbel⟩ := hrel
    have HPL : Hid _ := hpl
    clear hpl
    by_cases hk0 : 0 < k
    · have hk0' : 0 < (k : Int) := by omega
      have hk2 : (k : Int) < (f.length : Int) := by omega
      obtain ⟨b, o, x0, y0, y1, q, c, y2, t1⟩ := (HR.out.next hbel).cells k hk
      have hgl : g < wr.heap.size := Nat.lt_of_lt_of_le HR.out.lt hbel.size
      have hz1 : 0 < f[k].es.length := HNE.out (by omega) f[k] (List.getElem_mem _)
      have hsz := HS.out f[k] (List.getElem_mem _)
      rcases t1 with h0 | ⟨b2, off, rfl, hbl, hc⟩
      · omega
      obtain ⟨z0, z1⟩ := hc 0 hz1
      have hat := (atN_of f e k hk).trans (atB_some hz1)
      obtain ⟨fe, hfe⟩ : ∃ fe, fe = f[k].es[0] := ⟨_, rfl⟩
      rw [← hfe] at z0 z1 hat
      have u0 : ∀ u : Under wr, u.x.cell? ⟨g, k, none⟩ = some (.pointer (some ⟨b, o, none⟩)) := fun u => (u.h.cell hgl).trans x0
      have u1 : ∀ u : Under wr, u.x.cell? ⟨b, o + 1, none⟩ = some (.slice (some ⟨b2, off, none⟩) f[k].es.length c) := fun u => (u.h.cell y0).trans y2
      have u4 : ∀ u : Under wr, u.x.cell? ⟨b2, off, none⟩ = some (.string fe.key) := fun u => (u.h.cell hbl).trans z0
      have u5 : ∀ u : Under wr, u.x.cell? ⟨b2, off + 1, none⟩ = some (.int .i64 fe.id) := fun u => (u.h.cell hbl).trans z1
      have u2 : ∀ u : Under wr, u.x.cell? ⟨w.heap.size, 0, none⟩ = some (.string e.key) := fun u => (u.h.cell (Nat.lt_of_lt_of_le l0 hbel.size)).trans ((hbel.cell l0).trans d0)
      have u3 : ∀ u : Under wr, u.x.cell? ⟨w.heap.size, 1, none⟩ = some (.int .i64 e.id) := fun u => (u.h.cell (Nat.lt_of_lt_of_le l0 hbel.size)).trans ((hbel.cell l0).trans d1)
      have u6 : ∀ u : Under wr, u.x.cell? ⟨b, o, none⟩ = some (.int .i64 f[k].num) := fun u => (u.h.cell y0).trans y1
      have hnu : Nonempty (Under wr) := ⟨⟨wr, Below.refl _ _⟩⟩
      have hz' : 0 < (f[k].es.length : Int) := by omega
      obtain ⟨lk, hlk⟩ : ∃ lk, lk = f[k].es.length := ⟨_, rfl⟩
      rw [← hlk] at u1 hz' hsz
      have hzd : decide (0 < lk) = true := decide_eq_true (by omega)
      have hcm := cmpE_le fe e
      obtain ⟨cm, hcm0⟩ : ∃ cm, cm = cmpE fe e := ⟨_, rfl⟩
      have HCM : Hid (∀ u : Under wr, Calls Try.prog 103 #[.agg #[.string fe.key, .int .i64 fe.id], .agg #[.string e.key, .int .i64 e.id]] u.x fun e w' => e = .returned (.int .i64 cm) ∧ Below u.x.heap.size u.x w') := fun u => by rw [hcm0]; exact compareEntries_any fe e u.x
      rw [← hcm0, ← hat] at hcm
      clear x0 y1 y2 hc z0 z1 hfe hlk hcm0 hat hz1
      cases hA : atN f e k
      · rw [hA] at hcm
        have hcm' : ¬ cm ≤ 0 := of_decide_eq_false hcm
        have HN : Hid (place f e = placeU f e k) := HPL.out.trans (placeU_no f e k hA)
        clear hcm hA
        go_wp2_with fail
        refine wp_region_under (by kernel_rfl) (by kernel_rfl) ?_
        repeat (go_big_quiet_step ((go_at_call 103; exact calls_under _ (HCM.out _))))
        refine wpQuiet_nil ?_
        rintro _ ⟨u, rfl⟩
        go_wp2_with fail
        go_roundw
        case rel => exact ⟨k - 1, by omega, by go_num, by rw [HN.out]; congr 1; omega, hbel.trans (u.h.mono hbel.size)⟩
        case measure => simp [intOf]; omega
      · rw [hA] at hcm
        have hcm' : cm ≤ 0 := of_decide_eq_true hcm
        have HN : Hid (place f e = k) := HPL.out.trans (placeU_yes f e k hk0 hA)
        clear hcm hA
        go_wp2_with fail
        refine wp_region_under (by kernel_rfl) (by kernel_rfl) ?_
        repeat (go_big_quiet_step ((go_at_call 103; exact calls_under _ (HCM.out _))))
        refine wpQuiet_nil ?_
        rintro _ ⟨u, rfl⟩
        go_wp2_with fail
        go_ret
        exact ⟨by rw [HN.out]; rfl, hb0.trans ((hbel.trans (u.h.mono hbel.size)).mono hb0.size)⟩
    · obtain rfl : k = 0 := by omega
      have HN : Hid (place f e = 0) := HPL.out
      go_wp2_with fail
      go_ret
      exact ⟨by rw [HN.out]; rfl, hb0.trans (hbel.mono hb0.size)⟩

end Go.Proofs.Ytnmpfooegnmknaa.Tr
