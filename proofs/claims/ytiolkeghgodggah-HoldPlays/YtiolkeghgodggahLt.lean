/-
  A branch's Tick.
-/
import Derived.Test.YtiolkeghgodggahLo
import Derived.Test.YtiolkeghgodggahLz
import Derived.Deep.RegionWith
namespace Go.Proofs.Ytiolkeghgodggah.Hd
open Go.RowKit Go.Shelf Go.Sort

namespace Plain
/-- The first k have one tick less. -/
def tickP (l : List Pt) (k : Nat) : List Pt := (l.take k).map decP ++ l.drop k
theorem tickP_zero (l : List Pt) : tickP l 0 = l := by simp [tickP]
theorem tickP_len (l : List Pt) (k : Nat) (hk : k ≤ l.length) : (tickP l k).length = l.length := by simp [tickP]; omega
theorem tickP_all (l : List Pt) (k : Nat) (hk : l.length ≤ k) : tickP l k = l.map decP := by simp [tickP, List.take_of_length_le hk, List.drop_of_length_le hk]
theorem tickP_at (l : List Pt) (k : Nat) (hk : k < l.length) : (tickP l k).getD k default = l.getD k default := by
  have h1 : ((l.take k).map decP).length = k := by simp; omega
  unfold tickP
  rw [List.getD_eq_getElem?_getD, List.getElem?_append_right (by omega), h1, Nat.sub_self, List.getElem?_drop, Nat.add_zero, ← List.getD_eq_getElem?_getD]
theorem tickP_next (l : List Pt) (k : Nat) (hk : k < l.length) : (tickP l k).set k { (tickP l k).getD k default with ticks := (l.getD k default).ticks - 1 } = tickP l (k + 1) := by
  rw [tickP_at l k hk]
  have e1 : l.drop k = l[k] :: l.drop (k + 1) := by rw [List.drop_eq_getElem_cons hk]
  have h1 : ((l.take k).map decP).length = k := by simp; omega
  unfold tickP
  rw [List.set_append_right _ _ (by omega), h1, Nat.sub_self, e1, List.set_cons_zero, List.take_succ_eq_append_getElem hk, List.map_append, List.append_assoc, getD_el l k hk]
  rfl
theorem dec_counts {l : List Pt} (h : ∀ p, p ∈ l → 0 ≤ p.count) : ∀ p, p ∈ l.map decP → 0 ≤ p.count := fun p hp => by
  obtain ⟨q, hq, rfl⟩ := List.mem_map.1 hp
  exact h q hq
theorem sumP_dec (l : List Pt) : sumP (l.map decP) = sumP l := by
  induction l with
  | nil => rfl
  | cons p l ih => simp only [List.map_cons, sumP, ih]; rfl
theorem sumP_filter {l : List Pt} (h : ∀ p, p ∈ l → 0 ≤ p.count) (q : Pt → Bool) : sumP (l.filter q) ≤ sumP l := by
  induction l with
  | nil => exact Int.le_refl _
  | cons p l ih =>
    have h1 := h p (List.mem_cons_self ..)
    have h2 := ih fun x hx => h x (List.mem_cons_of_mem _ hx)
    rw [List.filter_cons]
    split
    · simp only [sumP]; omega
    · simp only [sumP]; omega
end Plain

set_option maxHeartbeats 4000000 in
set_option maxRecDepth 100000 in
/-- Tick. -/
theorem htick_c (ZZ : Nat → Prop) (R oo : Nat) (XX : Win) (vo : Value) (f u m : Int) (l : List Plain.Pt) (hf : 0 ≤ f ∧ f ≤ 1048576) (hc : ∀ p, p ∈ l → 0 ≤ p.count) (ht : ∀ p, p ∈ l → 1 ≤ p.ticks ∧ p.ticks ≤ 20) (hs : Plain.sumP l ≤ 1048576) (hb : l.length ≤ 1000) (w : World) (h : BrI ZZ R oo XX w vo f u m l) :
    Calls Try.prog 40 #[.pointer (some ⟨R, oo, none⟩)] w fun e w' => e = .returned (.tuple #[]) ∧ (∃ vo', BrI ZZ R oo XX w' vo' (f + (Plain.sumP (l.map Plain.decP) - Plain.sumP ((l.map Plain.decP).filter Plain.live))) u m ((l.map Plain.decP).filter Plain.live)) ∧ Kp ZZ R w w' := by
  obtain ⟨L, hL⟩ : ∃ L, L = l.map Plain.decP := ⟨_, rfl⟩
  obtain ⟨M, hM⟩ : ∃ M, M = L.filter Plain.live := ⟨_, rfl⟩
  have hcL : ∀ p, p ∈ L → 0 ≤ p.count := by rw [hL]; exact Plain.dec_counts hc
  have hcM : ∀ p, p ∈ M → 0 ≤ p.count := fun p hp => hcL p (by rw [hM] at hp; exact (List.mem_filter.1 hp).1)
  have hsL : Plain.sumP L ≤ 1048576 := by rw [hL, Plain.sumP_dec]; exact hs
  have hsM : Plain.sumP M ≤ Plain.sumP L := by rw [hM]; exact Plain.sumP_filter hcL _
  have hlL : L.length ≤ 1000 := by rw [hL, List.length_map]; exact hb
  have hlM : M.length ≤ 1000 := by have := List.length_filter_le Plain.live L; rw [← hM] at this; omega
  have h0M := Plain.sumP_nonneg hcM
  have KH1 := fun v fx W (hx : BrI ZZ R oo XX W v fx u m L) => hheld_g ZZ R oo XX v fx u m L hcL hsL hlL W hx
  have KH2 := fun v fx W (hx : BrI ZZ R oo XX W v fx u m M) => hheld_g ZZ R oo XX v fx u m M hcM (by omega) hlM W hx
  have KD := fun v W (hx : OwnP W 0 v L) => drop_any v 0 L hlL W hx
  rw [← hM] at KD
  rw [← hL, ← hM]
  obtain ⟨S1, hS1⟩ : ∃ S, S = Plain.sumP L := ⟨_, rfl⟩
  obtain ⟨S2, hS2⟩ : ∃ S, S = Plain.sumP M := ⟨_, rfl⟩
  rw [← hS1] at KH1 hsL hsM ⊢
  rw [← hS2] at KH2 hsM h0M ⊢
  clear hS1 hS2 hM hcL hcM hs hc
  obtain ⟨f1, f2⟩ := hf
  obtain ⟨p0, cp, evo, _, _, hfm⟩ := ownP_form h.ow
  have r2 := h.c2
  rw [evo] at r2
  have HB := hid h
  have HT := hid ht
  have HEV := hid evo
  clear h ht hfm evo
  obtain ⟨n, hn⟩ : ∃ n, n = l.length := ⟨_, rfl⟩
  rw [← hn] at r2 HEV hb
  have HN := hid hn
  have HL := hid hL
  have HKH1 := hid KH1
  have HKH2 := hid KH2
  have HKD := hid KD
  clear hn hL KH1 KH2 KD
  go_enter Try.func40, Try.ntmps40
  go_wp2
  clear r2
  go_loopg [2, 9] n (fun gg _ s9 wx => ∃ k : Nat, k ≤ n ∧ n - k ≤ gg ∧ s9 = .int .i64 k ∧ Aside (BrI ZZ R oo XX wx vo f u m (Plain.tickP l k)) ∧ Aside (Kp ZZ R w wx))
  case atStart => exact ⟨0, Nat.zero_le _, by omega, rfl, (show Aside _ by rw [Plain.tickP_zero]; exact HB.out), (show Aside _ from Kp.refl _ _ _)⟩
  case round =>
    obtain ⟨k, hkk, hg, rfl, A, K⟩ := hrel
    by_cases hlt : k < n
    · have hltz : (k : Int) < (n : Int) := by omega
      have hkl : k < l.length := by rw [← HN.out]; exact hlt
      have hlen := Plain.tickP_len l k (by omega)
      obtain ⟨p', c', e', _, _, hf'⟩ := ownP_form A.out.ow
      obtain ⟨g, e'', _, _, hcc, hff⟩ := hf' (by omega)
      rw [e'', hlen, ← HN.out] at e'
      obtain ⟨_, _, x2⟩ := hcc k (by omega)
      have z2 := hff (k * 3 + 2)
      rw [Plain.tickP_at l k hkl] at x2
      have r2 := A.out.c2
      rw [e'] at r2
      have hty := HT.out (l.getD k default) (by rw [Plain.getD_el l k hkl]; exact List.getElem_mem _)
      have AL : Hid (BrI ZZ R oo XX wr (.slice (some ⟨g, 0, none⟩) (Plain.tickP l k).length c') f u m (Plain.tickP l k)) := hid (by rw [hlen, ← HN.out, ← e']; exact A.out)
      have A2 := hid (AL.out.ticks k (by omega) ((l.getD k default).ticks - 1))
      rw [Plain.tickP_next l k hkl, hlen, ← HN.out, ← e'] at A2
      have KK := hid (K.out.trans (Kp.setP (R := R) (AL.out.own g rfl) (k * 3 + 2) (.int .i64 ((l.getD k default).ticks - 1))))
      clear hf' hcc hff e'' e' AL hlen
      obtain ⟨y, hy⟩ : ∃ y, y = (l.getD k default).ticks := ⟨_, rfl⟩
      rw [← hy] at x2 hty A2 KK
      clear hy
      obtain ⟨y1, y2⟩ := hty
      go_wp2
      go_roundg (n - (k + 1))
      case measure => omega
      case rel => exact ⟨k + 1, by omega, by omega, by go_num, A2.out, KK.out⟩
    · have hltz : ¬ (k : Int) < (n : Int) := by omega
      have H1 : Hid (BrI ZZ R oo XX wr vo f u m L) := hid (by rw [HL.out, ← Plain.tickP_all l k (by rw [← HN.out]; omega)]; exact A.out)
      have K1 := HKH1.out vo f wr H1.out
      clear A
      go_wp2_with fail
      refine K1.mono ?_
      rintro e W2 ⟨rfl, q, os', hw2⟩
      have b2 : Below wr.heap.size wr W2 := by rw [hw2]; exact below_grow (Below.refl _ _) (Nat.le_refl _) _ _
      have H2 := hid (H1.out.grow b2)
      have K2 := hid (K.out.trans (Kp.of_below b2))
      clear b2 hw2 K1 H1 K
      have r2 := H2.out.c2
      obtain ⟨p', c', e', _, _, _⟩ := ownP_form H2.out.ow
      rw [e'] at r2
      have KD := HKD.out vo W2 H2.out.ow
      rw [e'] at KD
      have HE := hid e'
      clear e'
      go_wp2_with fail
      refine KD.mono ?_
      rintro e W3 ⟨v3, rfl, o3, g3, q3⟩
      rw [← HE.out] at g3 q3
      have rowU : W3.rowIs R XX.t XX.n (XX.f oo 4 (brF f u vo m)) := H2.out.row.of_block (g3.block _ H2.out.row.lt (fun e => H2.out.nown e.symm))
      have u2 := Win.cell rowU H2.out.le (i := 2) (by omega)
      have uf := rowU.frozen (oo + 2)
      rw [show brF f u vo m 2 = vo from rfl, HE.out] at u2
      have Q3 := hid (H2.out.put rowU o3 (fun x hx => H2.out.own x (q3 ▸ hx)) g3.size)
      have QK := hid (K2.out.trans ((Kp.grown H2.out.own g3).trans (Kp.setR (ZZ := ZZ) (R := R) (oo + 2) v3)))
      obtain ⟨p3, c3, e3, _, _, _⟩ := ownP_form o3
      clear KD rowU o3 g3 q3 H2 K2 r2 HE
      rw [e3] at Q3 QK
      rw [e3]
      clear e3
      obtain ⟨W4, hW4⟩ : ∃ W4, W4 = W3.setCell ⟨R, oo + 2, none⟩ (.slice p3 M.length c3) := ⟨_, rfl⟩
      rw [← hW4] at Q3 QK
      go_wp2
      rw [← hW4]
      clear hW4 u2 uf
      have r0 : W4.drew.cell? ⟨R, oo, none⟩ = some (.int .i64 f) := Q3.out.c0
      have r0' := Q3.out.c0
      have z0 : W4.drew.frozen? ⟨R, oo, none⟩ = false := Q3.out.row.frozen oo
      obtain ⟨d, hd⟩ : ∃ d, d = S1 - S2 := ⟨_, rfl⟩
      obtain ⟨f', hf'⟩ : ∃ f', f' = f + d := ⟨_, rfl⟩
      have hw1 : IntKind.i64.wrap (S1 - S2) = d := by rw [hd, IntKind.wrap_i64]; omega
      have hw2 : IntKind.i64.wrap (f + d) = f' := by rw [hf', IntKind.wrap_i64]; omega
      have HF := hid (show f' = f + (S1 - S2) by rw [hf', hd])
      clear hd hf'
      have Q4 : Hid (BrI ZZ R oo XX W4.drew (.slice p3 M.length c3) f u m M) := hid (Q3.out.drewN 1)
      have K4 := HKH2.out _ f W4.drew Q4.out
      go_region_with (go_at_call 41; refine K4.mono ?_; rintro e W5 ⟨rfl, q5, os5, hw5⟩; have b5 : Hid (Below W4.drew.heap.size W4.drew W5) := hid (by rw [hw5]; exact below_grow (Below.refl _ _) (Nat.le_refl _) _ _); clear hw5; have r05 := (Q4.out.grow b5.out).c0; have z05 := (Q4.out.grow b5.out).row.frozen oo)
      all_goals
        have F5 := hid ((Q4.out.grow b5.out).free f')
        have F6 := hid (QK.out.trans (((Kp.of_below (below_drewN (Below.refl _ _) 1)).trans (Kp.of_below b5.out)).trans (Kp.setR (ZZ := ZZ) (R := R) oo (.int .i64 f'))))
        go_end0
        exact ⟨rfl, ⟨_, by rw [← HF.out]; exact F5.out⟩, F6.out⟩
end Go.Proofs.Ytiolkeghgodggah.Hd
