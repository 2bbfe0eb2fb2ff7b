/-
  Plain: what is packed comes back; and what the laws' own fields come to.
-/
import Derived.Test.YtnnicibkmbidpacKf
namespace Go.Proofs.Ytnnicibkmbidpac
open Go.RowKit
namespace Plain

theorem wl_sz (l : List Int) : szE (wlist l) = 0 := (sz_yes _ (by have := wlist_len l; omega) (wlist_ok l)).1

theorem fl_pack (ws vs : List Int) (hz : szE ws = 0) : packE (flist ws vs ws.length) = 0 ∧ packB (flist ws vs ws.length) = bytesOf (rbits ((flist ws vs ws.length).map nat2)) (szN ws) := by
  have := packE_ok (flist ws vs ws.length) (by rw [flist_fst]; exact hz) (flist_fit ws vs _)
  rw [flist_fst] at this
  exact this

theorem fl_len (ws vs : List Int) (hz : szE ws = 0) : (packB (flist ws vs ws.length)).length = szN ws := by rw [(fl_pack ws vs hz).2, bytesOf_len]

theorem nat2_lt (l : List (Int × Int)) (h : l.all fitB = true) : ∀ f ∈ l.map nat2, f.2 < 2 ^ f.1 := by
  intro f hf
  obtain ⟨g, hg, rfl⟩ := List.mem_map.1 hf
  have := List.all_eq_true.1 h g hg
  unfold fitB at this
  simp only [Bool.and_eq_true, decide_eq_true_eq] at this
  obtain ⟨h1, h2⟩ := this
  have e : ((2 : Int) ^ g.1.toNat) = ((2 ^ g.1.toNat : Nat) : Int) := by simp
  rw [e] at h2
  unfold nat2
  simp only
  omega

theorem fit_nn (l : List (Int × Int)) (h : l.all fitB = true) : ∀ f ∈ l, 0 ≤ f.2 := by
  intro f hf
  have := List.all_eq_true.1 h f hf
  unfold fitB at this
  simp only [Bool.and_eq_true, decide_eq_true_eq] at this
  exact this.1

/-- What is packed comes back. -/
theorem back (l : List (Int × Int)) (hz : szE (l.map Prod.fst) = 0) (ha : l.all fitB = true) : unpackE (l.map Prod.fst) (packB l) = 0 ∧ unpackI (l.map Prod.fst) (packB l) = l.map Prod.snd := by
  have hp := packE_ok l hz ha
  have hs := szE_zero _ hz
  have hl : (packB l).length = szN (l.map Prod.fst) := by rw [hp.2, bytesOf_len]
  have hlt := at0_lt _ (rbits_lt (l.map nat2))
  have hbit : ∀ p, p < 8 * szN (l.map Prod.fst) → bitOf (packB l) p = at0 (rbits (l.map nat2)) p := by
    intro p h
    rw [hp.2]
    exact bitOf_bytesOf _ hlt _ p h
  have hx : num (bitOf (packB l)) (bitsN (l.map Prod.fst)) (8 * szN (l.map Prod.fst) - bitsN (l.map Prod.fst)) = 0 := by
    rw [num_zero]
    intro i hi
    rw [hbit _ (by omega), at0_out]
    rw [pk_len]; omega
  have h := un_ok (l.map Prod.fst) (packB l) hz hl hx
  refine ⟨h.1, ?_⟩
  rw [h.2]
  have e1 : vals (bitOf (packB l)) 0 ((l.map Prod.fst).map Int.toNat) = vals (at0 (rbits (l.map nat2))) 0 ((l.map Prod.fst).map Int.toNat) := by
    apply vals_congr
    intro p hp'
    apply hbit
    have : ((l.map Prod.fst).map Int.toNat).sum = bitsN (l.map Prod.fst) := rfl
    omega
  have e2 := vals_rbits (l.map nat2) (nat2_lt l ha) [] []
  have e3 : (l.map nat2).map Prod.fst = (l.map Prod.fst).map Int.toNat := by simp [nat2, Function.comp_def]
  rw [List.nil_append, List.append_nil, e3, List.length_nil] at e2
  rw [e1, e2, List.map_map, List.map_map]
  apply List.map_congr_left
  intro f hf
  have := fit_nn l ha f hf
  simp only [Function.comp, nat2]
  omega
end Plain

theorem own_form {w : World} {B e s n : Nat} {v : Value} {xs : List Value} (h : w.ownsRow B e s v n xs) : ∃ p c, v = .slice p n c := by
  rcases h.2 with ⟨rfl, rfl⟩ | ⟨g, c, _, rfl, _⟩
  · exact ⟨none, 0, rfl⟩
  · exact ⟨_, c, rfl⟩

theorem segF_form {w : World} {u : Value} {bl : List (Int × Int)} (h : SegF w u bl) : ∃ p c, u = .slice p bl.length c := by
  rcases h with ⟨rfl, p, c, rfl⟩ | ⟨b, o, c, rfl, _⟩
  · exact ⟨p, c, rfl⟩
  · exact ⟨_, c, rfl⟩

/-- The fields' row, as the list that it holds. -/
theorem kf_seg {w : World} {B : Nat} {r : Value} {ws vs : List Int} (h : w.ownsRow B 35 2 r ws.length (lvals (Plain.flist ws vs ws.length))) : SegF w r (Plain.flist ws vs ws.length) ∧ Lies w.heap.size r :=
  ⟨segF_of_owns (by rw [Plain.flist_len]; exact h), lies_owns2 h⟩

theorem shape_eq (l : List Int) : ((((Plain.wlist l).length : Int) == 0) == ((Plain.szN (Plain.wlist l) : Int) == 0)) = true := by
  have hz := Plain.wl_sz l
  have h := Plain.szE_zero _ hz
  rw [beq_iff_eq, Bool.eq_iff_iff, beq_iff_eq, beq_iff_eq]
  constructor
  · intro e
    have e' : Plain.wlist l = [] := List.length_eq_zero_iff.1 (by omega)
    rw [e']; rfl
  · intro e
    have := Plain.sz_empty _ hz (by omega)
    rw [this]; rfl

theorem seg_at {w : World} {p : Option Addr} {n c k : Nat} {l : List Int} (h : Seg w (.slice p n c) l) (hk : k < l.length) : ∃ b o, p = some ⟨b, o, none⟩ ∧ w.cell? ⟨b, o + k, none⟩ = some (.int .i64 (l.getD k 0)) := by
  rcases h with ⟨rfl, _⟩ | ⟨b, o, c', e, g⟩
  · simp at hk
  · injection e with e1 _ _
    exact ⟨b, o, e1, g k hk⟩
theorem segB_at {w : World} {p : Option Addr} {n c k : Nat} {l : List Nat} (h : SegB w (.slice p n c) l) (hk : k < l.length) : ∃ b o, p = some ⟨b, o, none⟩ ∧ w.cell? ⟨b, o + k, none⟩ = some (.int .u8 (l.getD k 0 : Nat)) := by
  rcases h with ⟨rfl, _⟩ | ⟨b, o, c', e, g⟩
  · simp at hk
  · injection e with e1 _ _
    exact ⟨b, o, e1, g k hk⟩
theorem segF_at {w : World} {p : Option Addr} {n c k : Nat} {l : List (Int × Int)} (h : SegF w (.slice p n c) l) (hk : k < l.length) :
    ∃ b o, p = some ⟨b, o, none⟩ ∧ w.cell? ⟨b, o + k * 2, none⟩ = some (.int .i64 (l.getD k (0, 0)).1) ∧ w.cell? ⟨b, o + k * 2 + 1, none⟩ = some (.int .i64 (l.getD k (0, 0)).2) := by
  rcases h with ⟨rfl, _⟩ | ⟨b, o, c', e, g⟩
  · simp at hk
  · injection e with e1 _ _
    exact ⟨b, o, e1, g k hk⟩

theorem one_pack : Plain.packE [(3, 5)] = 0 ∧ Plain.packB [(3, 5)] = [160] := by decide

theorem fl_back (ws vs : List Int) (hz : Plain.szE ws = 0) : Plain.unpackE ws (Plain.packB (Plain.flist ws vs ws.length)) = 0 ∧ Plain.unpackI ws (Plain.packB (Plain.flist ws vs ws.length)) = (Plain.flist ws vs ws.length).map Prod.snd := by
  have := Plain.back (Plain.flist ws vs ws.length) (by rw [Plain.flist_fst]; exact hz) (Plain.flist_fit ws vs _)
  rw [Plain.flist_fst] at this
  exact this
end Go.Proofs.Ytnnicibkmbidpac
