/-
  What the circle's methods lean on: isPlace, isBranch, merge, latest, refuse, the literal of write.
-/
import Derived.Test.YtiolkeghgodggakGm
namespace Go.Proofs.Ytiolkeghgodggak
open Go.RowKit Go.Shelf Go.Sort
namespace Plain
/-- Why a turn that writes, or erases, is refused; 0: it is not. -/
def rfE (n : Nat) (L : List Int) (t : Tu) : Nat :=
  if (t.who < 0 ∨ (n : Int) ≤ t.who) ∨ (t.label < 0 ∨ (L.length : Int) ≤ t.label) ∨ (t.key < 0 ∨ 7 < t.key) then 2
  else if t.kind = 1 ∧ (t.value < 0 ∨ 255 < t.value) then 2
  else if reads (labAt L t.label.toNat) t.who.toNat = false then 11
  else 0
theorem tuE_rf {n : Nat} {L : List Int} {s : Stt} {t : Tu} (hk : t.kind = 1 ∨ t.kind = 2) : tuE n L s t = if rfE n L t ≠ 0 then rfE n L t else if t.kind = 2 ∧ lives t.key (s t.who.toNat t.label.toNat) = false then 6 else 0 := by
  by_cases h1 : t.who < 0 ∨ (n : Int) ≤ t.who
  · have e : rfE n L t = 2 := by unfold rfE; rw [if_pos (.inl h1)]
    rw [e]; unfold tuE; rw [if_neg (by omega), if_pos h1]; rfl
  by_cases h2 : (t.label < 0 ∨ (L.length : Int) ≤ t.label) ∨ (t.key < 0 ∨ 7 < t.key)
  · have e : rfE n L t = 2 := by unfold rfE; rw [if_pos (.inr h2)]
    rw [e]; unfold tuE; rw [if_neg (by omega), if_neg h1, if_neg (by omega), if_pos h2]; rfl
  by_cases h3 : t.kind = 1 ∧ (t.value < 0 ∨ 255 < t.value)
  · have e : rfE n L t = 2 := by unfold rfE; rw [if_neg (by omega), if_pos h3]
    rw [e]; unfold tuE; rw [if_neg (by omega), if_neg h1, if_neg (by omega), if_neg h2, if_pos h3]; rfl
  by_cases h4 : reads (labAt L t.label.toNat) t.who.toNat = false
  · have e : rfE n L t = 11 := by unfold rfE; rw [if_neg (by omega), if_neg h3, if_pos h4]
    rw [e]; unfold tuE; rw [if_neg (by omega), if_neg h1, if_neg (by omega), if_neg h2, if_neg h3, if_pos h4]; rfl
  · have e : rfE n L t = 0 := by unfold rfE; rw [if_neg (by omega), if_neg h3, if_neg h4]
    rw [e]; unfold tuE; rw [if_neg (by omega), if_neg h1, if_neg (by omega), if_neg h2, if_neg h3, if_neg h4]; rfl
theorem rf_ok {n : Nat} {L : List Int} {t : Tu} (h : rfE n L t = 0) : (0 ≤ t.who ∧ t.who < n) ∧ (0 ≤ t.label ∧ t.label < L.length) ∧ (0 ≤ t.key ∧ t.key < 8) ∧ (t.kind = 1 → 0 ≤ t.value ∧ t.value ≤ 255) ∧ reads (labAt L t.label.toNat) t.who.toNat = true := by
  unfold rfE at h
  by_cases h1 : (t.who < 0 ∨ (n : Int) ≤ t.who) ∨ (t.label < 0 ∨ (L.length : Int) ≤ t.label) ∨ (t.key < 0 ∨ 7 < t.key)
  · rw [if_pos h1] at h; omega
  rw [if_neg h1] at h
  by_cases h3 : t.kind = 1 ∧ (t.value < 0 ∨ 255 < t.value)
  · rw [if_pos h3] at h; omega
  rw [if_neg h3] at h
  by_cases h4 : reads (labAt L t.label.toNat) t.who.toNat = false
  · rw [if_pos h4] at h; omega
  exact ⟨by omega, by omega, by omega, fun hk => by omega, by simpa using h4⟩
/-- Why a store refuses; 0: it does not. -/
def rfS (L : List Int) (who : Nat) (la ke : Int) : Nat :=
  if (la < 0 ∨ (L.length : Int) ≤ la) ∨ (ke < 0 ∨ 7 < ke) then 2 else if reads (labAt L la.toNat) who = false then 11 else 0
/-- What is under a key. -/
def valE (L : List Int) (who : Nat) (s : Nat → List En) (la ke : Int) : Nat := if rfS L who la ke ≠ 0 then rfS L who la ke else if lives ke (s la.toNat) = false then 6 else 0
def valV (L : List Int) (who : Nat) (s : Nat → List En) (la ke : Int) : Int := if valE L who s la ke ≠ 0 then 0 else match look ke (s la.toNat) with | some e => e.value | none => 0
/-- What holds of what a store has. -/
structure Sok (T : Int) (s : Nat → List En) : Prop where
  srt : ∀ j, Srt (s j)
  may : ∀ j, ∀ e ∈ s j, mayB e = true ∧ (0 ≤ e.key ∧ e.key < 8) ∧ e.time ≤ T ∧ e.value ≤ 255
theorem Sok.len {T : Int} {s : Nat → List En} (h : Sok T s) (j : Nat) : (s j).length ≤ 8 := by
  have := srt_len (h.srt j) 0 8 (fun e he => (h.may j e he).2.1)
  simpa using this
theorem Sok.mayL {T : Int} {s : Nat → List En} (h : Sok T s) (j : Nat) : mayL (s j) = true := (may_iff _).2 ⟨h.len j, fun e he => (h.may j e he).1, h.srt j⟩
theorem Sok.of_gok {n : Nat} {L : List Int} {T : Int} {s : Stt} (h : Gok n L T s) (i : Nat) : Sok T (s i) := ⟨h.srt i, h.may i⟩
/-- What is written. -/
def entW (l : List En) (ke va : Int) (who : Nat) (gone : Bool) : En := ⟨ke, va, maxT l + 1, who, gone⟩
theorem entW_may {T : Int} {s : Nat → List En} (h : Sok T s) (hT : 0 ≤ T ∧ T < 1000000) {who : Nat} (hw : who < 8) {ke va : Int} (hk : 0 ≤ ke ∧ ke < 8) (hv : 0 ≤ va ∧ va ≤ 255) {gone : Bool} (hg : gone = true → va = 0) (j : Nat) :
    mayB (entW (s j) ke va who gone) = true ∧ Plain.mayL [entW (s j) ke va who gone] = true ∧ (mergeL (s j) [entW (s j) ke va who gone]).length ≤ 8 := by
  have hm := maxT_le hT.1 (fun e he => (h.may j e he).2.2.1)
  have hp := maxT_pos (s j)
  have hb : mayB (entW (s j) ke va who gone) = true := by
    unfold entW mayB
    dsimp only
    exact decide_eq_true ⟨by omega, by omega, by omega, by omega, hg⟩
  refine ⟨hb, (may_iff _).2 ⟨by simp, fun x hx => ?_, List.pairwise_singleton _ _⟩, ?_⟩
  · have hx' : x = entW (s j) ke va who gone := by simpa using hx
    rw [hx']; exact hb
  · show (put (s j) (entW (s j) ke va who gone)).length ≤ 8
    have := srt_len (put_srt (h.srt j) (entW (s j) ke va who gone)) 0 8 (fun e he => by
      rcases put_mem he with rfl | h1
      · exact hk
      · exact (h.may j e h1).2.1)
    simpa using this
theorem Sok.put {T : Int} {s : Nat → List En} (h : Sok T s) (hT : 0 ≤ T ∧ T < 1000000) {who : Nat} (hw : who < 8) {ke va : Int} (hk : 0 ≤ ke ∧ ke < 8) (hv : 0 ≤ va ∧ va ≤ 255) {gone : Bool} (hg : gone = true → va = 0) (j : Nat) :
    Sok (T + 1) (fun b => if b = j then Plain.put (s j) (entW (s j) ke va who gone) else s b) := by
  have hm := maxT_le hT.1 (fun e he => (h.may j e he).2.2.1)
  refine ⟨fun b => ?_, fun b e he => ?_⟩
  · show Srt (if b = j then _ else s b)
    split
    · exact put_srt (h.srt j) _
    · exact h.srt b
  · change e ∈ (if b = j then _ else s b) at he
    split at he
    · rcases put_mem he with rfl | h1
      · exact ⟨(entW_may h hT hw hk hv hg j).1, hk, by show maxT (s j) + 1 ≤ T + 1; omega, hv.2⟩
      · have := h.may j e h1
        exact ⟨this.1, this.2.1, by omega, this.2.2.2⟩
    · have := h.may b e he
      exact ⟨this.1, this.2.1, by omega, this.2.2.2⟩
theorem lives_any {l : List En} (hs : Srt l) (k : Int) : l.any (fun e => e.key == k && !e.gone) = lives k l := by
  unfold lives
  cases hl : look k l with
  | none =>
    dsimp only
    rw [List.any_eq_false]
    intro x hx h
    have h1 : x.key = k := by
      have := (Bool.and_eq_true _ _).mp h
      simpa using this.1
    have := look_mem hs hx
    rw [h1, hl] at this
    cases this
  | some e =>
    dsimp only
    have hk := look_key hl
    cases hg : e.gone with
    | false =>
      exact List.any_eq_true.2 ⟨e, hk.2, by simp [hk.1, hg]⟩
    | true =>
      show l.any _ = false
      rw [List.any_eq_false]
      intro x hx h
      have hh := (Bool.and_eq_true _ _).mp h
      have h1 : x.key = k := by simpa using hh.1
      have := look_mem hs hx
      rw [h1, hl] at this
      injection this with this
      subst this
      rw [hg] at hh
      simp at hh
end Plain

set_option maxHeartbeats 400000 in
theorem place_t {x k : Int} (h : 0 ≤ x ∧ x < k) (w : World) : Calls Try.prog 36 #[.int .i64 x, .int .i64 k] w fun e w' => e = .returned (.bool true) ∧ w' = w := by
  have h1 := h.1
  have h2 := h.2
  clear h
  go_enter Try.func36, Try.ntmps36
  go_wp2
  go_ret
  exact ⟨rfl, rfl⟩
set_option maxHeartbeats 400000 in
theorem place_f {x k : Int} (h : ¬ (0 ≤ x ∧ x < k)) (w : World) : Calls Try.prog 36 #[.int .i64 x, .int .i64 k] w fun e w' => e = .returned (.bool false) ∧ w' = w := by
  by_cases h1 : 0 ≤ x
  · have h2 : ¬ x < k := fun e => h ⟨h1, e⟩
    clear h
    go_enter Try.func36, Try.ntmps36
    go_wp2
    go_ret
    exact ⟨rfl, rfl⟩
  · clear h
    go_enter Try.func36, Try.ntmps36
    go_wp2
    go_ret
    exact ⟨rfl, rfl⟩
set_option maxHeartbeats 400000 in
/-- gossip.merge. -/
theorem gmerge_c (va vb : Value) (a b : List Plain.En) (ha : Plain.mayL a = true) (hb : Plain.mayL b = true) (h8 : (Plain.mergeL a b).length ≤ 8) (w : World) (sa : SegN w va a) (ya : Lies w.heap.size va) (sb : SegN w vb b) (yb : Lies w.heap.size vb) :
    Calls Try.prog 51 #[va, vb] w fun e w' => ∃ p c, e = .returned (.slice p (Plain.mergeL a b).length c) ∧ SegN w' (.slice p (Plain.mergeL a b).length c) (Plain.mergeL a b) ∧ Lies w'.heap.size (.slice p (Plain.mergeL a b).length c) ∧ Below w.heap.size w w' := by
  have a8 : a.length ≤ 8 := ((Plain.may_iff a).1 ha).1
  have b8 : b.length ≤ 8 := ((Plain.may_iff b).1 hb).1
  have e1 : Plain.mergeE a b = 0 := by unfold Plain.mergeE; rw [if_pos ⟨ha, hb⟩, if_pos h8]
  have e2 : Plain.mergeR a b = Plain.mergeL a b := by unfold Plain.mergeR; rw [if_pos e1]
  have K := merge_any va vb a b (by omega) (by omega) w sa ya sb yb
  rw [e1, e2] at K
  clear e1 e2 a8 b8 ha hb sa sb ya yb
  go_enter Try.func51, Try.ntmps51
  go_wp2_with fail
  refine K.mono ?_
  rintro e w1 ⟨r, rfl, hs, hl, hb⟩
  obtain ⟨p, c, rfl, _⟩ := hs.form
  have HS := hid hs
  have HL := hid hl
  have HB := hid hb
  clear hs hl hb K
  go_wp2
  go_ret
  exact ⟨_, _, rfl, HS.out, HL.out, HB.out⟩

theorem Plain.maxT_take (l : List Plain.En) (k : Nat) (h : k < l.length) : Plain.maxT (l.take (k + 1)) = max (Plain.maxT (l.take k)) (Plain.en l k).time := by
  unfold Plain.maxT
  rw [List.take_succ_eq_append_getElem h, List.foldl_append, Plain.en_lt h]
  rfl

set_option maxHeartbeats 1000000 in
theorem latest_some (b off c : Nat) (l : List Plain.En) (hb : l.length ≤ 100) (h0 : 0 < l.length) (w : World) (hlt : b < w.heap.size) (hc : CellsN w b off l) :
    Calls Try.prog 55 #[.slice (some ⟨b, off, none⟩) l.length c] w fun e w' => e = .returned (.int .i64 (Plain.maxT l)) ∧ Below w.heap.size w w' := by
  have HC := hid hc
  obtain ⟨n, hn⟩ : ∃ n, n = l.length := ⟨_, rfl⟩
  rw [← hn] at hb h0 ⊢
  have HN := hid hn
  clear hc hn
  go_enter Try.func55, Try.ntmps55
  go_wp2
  go_loopg [3, 5, 8] n (fun gg s3 _ s8 wx => ∃ (k : Nat) (t : Int), k ≤ n ∧ n - k ≤ gg ∧ s8 = .int .i64 k ∧ s3 = .int .i64 t ∧ Aside (t = Plain.maxT (l.take k)) ∧ Aside (Below w.heap.size w wx))
  case atStart => exact ⟨0, 0, Nat.zero_le _, by omega, rfl, rfl, (show Aside _ from rfl), (show Aside _ from Below.refl _ _)⟩
  case round =>
    obtain ⟨k, t, hk, hg, rfl, rfl, HT, HB⟩ := hrel
    by_cases hlk : k < n
    · have hltz : (k : Int) < (n : Int) := by omega
      obtain ⟨c0, c1, c2, c3, c4⟩ := (HC.out k (by rw [← HN.out]; exact hlk)).below HB.out hlt
      have HM := hid (Plain.maxT_take l k (by rw [← HN.out]; exact hlk))
      generalize Plain.en l k = y at c0 c1 c2 c3 c4 HM
      by_cases hty : t < y.time
      · have HZ := hid (show max t y.time = y.time by omega)
        go_wp2
        go_roundg (n - (k + 1))
        case measure => omega
        case rel => exact ⟨k + 1, y.time, by omega, by omega, by go_num, rfl, (show Aside _ from HM.out.trans (by rw [← HT.out, HZ.out]) |>.symm), (show Aside _ from HB.out.alloc HB.out.size _)⟩
      · have HZ := hid (show max t y.time = t by omega)
        go_wp2
        go_roundg (n - (k + 1))
        case measure => omega
        case rel => exact ⟨k + 1, t, by omega, by omega, by go_num, rfl, (show Aside _ from HM.out.trans (by rw [← HT.out, HZ.out]) |>.symm), (show Aside _ from HB.out.alloc HB.out.size _)⟩
    · have hltz : ¬ (k : Int) < (n : Int) := by omega
      have hk2 : l.take k = l := List.take_of_length_le (by rw [← HN.out]; omega)
      have HT2 := hid (show t = Plain.maxT l by rw [HT.out, hk2])
      clear hk2
      go_wp2
      go_ret
      exact ⟨by rw [HT2.out]; rfl, HB.out⟩
set_option maxHeartbeats 1000000 in
theorem latest_nil (p : Option Addr) (c : Nat) (w : World) :
    Calls Try.prog 55 #[.slice p 0 c] w fun e w' => e = .returned (.int .i64 0) ∧ Below w.heap.size w w' := by
  go_enter Try.func55, Try.ntmps55
  go_wp2
  refine wp_loop_rounds 1 ?_
  rw [rounds_succ]
  go_wp2
  go_ret
  exact ⟨rfl, Below.refl _ _⟩
theorem latest_c (v : Value) (l : List Plain.En) (hb : l.length ≤ 100) (w : World) (hs : SegN w v l) (hl : Lies w.heap.size v) :
    Calls Try.prog 55 #[v] w fun e w' => e = .returned (.int .i64 (Plain.maxT l)) ∧ Below w.heap.size w w' := by
  by_cases h0 : 0 < l.length
  · obtain ⟨b, off, c, rfl, _, hc⟩ := hs.some h0
    exact latest_some b off c l hb h0 w (hl ⟨b, off, none⟩ _ _ rfl h0) hc
  · obtain rfl : l = [] := List.length_eq_zero_iff.1 (by omega)
    obtain ⟨p, c, rfl, _⟩ := hs.form
    exact latest_nil p c w
end Go.Proofs.Ytiolkeghgodggak
