/- The landed package bounds: how often a name is bound (a map), and which bounds may be. -/
import Derived.Test.YtpnfbmhnmhahnaaBdX
import Derived.Test.YtpnfbmhnmhahnaaBdR
import Derived.Test.YtpnfbmhnmhahnaaPvY
namespace Go.Proofs.Ytpnfbmhnmhahnaa
open Go.RowKit Pv
set_option maxRecDepth 100000
theorem info_int9 : ∃ i, (TT ()).info? 3 = some i ∧ i.zero = some (.int .i64 0) := Option.bind_eq_some_iff.1 (show ((TT ()).info? 3).bind (·.zero) = some (.int .i64 0) by kernel_rfl)
/-- How many bindings have that name. -/
def cntB (m : List Bd) (s : ByteArray) : Int := (((m.filter fun p => decide (p.1 = s)).length : Nat) : Int)
theorem cntB_le (m : List Bd) (s : ByteArray) : 0 ≤ cntB m s ∧ cntB m s ≤ m.length := by
  unfold cntB
  have := List.length_filter_le (fun p : Bd => decide (p.1 = s)) m
  omega
theorem cntB_snoc (m : List Bd) (p : Bd) (s : ByteArray) : cntB (m ++ [p]) s = cntB m s + if p.1 = s then 1 else 0 := by
  unfold cntB
  rw [List.filter_append, List.length_append]
  by_cases h : p.1 = s
  · rw [if_pos h, List.filter_cons_of_pos (by simpa using h)]
    simp
  · rw [if_neg h, List.filter_cons_of_neg (by simpa using h)]
    simp
theorem cntB_zero {m : List Bd} {s : ByteArray} : cntB m s = 0 ↔ s ∉ m.map Prod.fst := by
  unfold cntB
  rw [Int.natCast_eq_zero, List.length_eq_zero_iff, List.filter_eq_nil_iff]
  simp only [decide_eq_true_eq, List.mem_map, not_exists, not_and]
theorem place_mem {l : List ByteArray} {s : ByteArray} : placeI l s < 0 ↔ s ∉ l := by
  unfold placeI
  split
  · rename_i i h
    obtain ⟨h1, h2, _⟩ := List.findIdx?_eq_some_iff_getElem.1 h
    rw [toList_beq, decide_eq_true_eq] at h2
    constructor
    · intro h3
      omega
    · intro h3
      exact absurd (h2 ▸ List.getElem_mem h1) h3
  · rename_i h
    rw [List.findIdx?_eq_none_iff] at h
    refine ⟨fun _ hs => ?_, fun _ => by omega⟩
    have := h s hs
    rw [toList_beq, decide_eq_false_iff_not] at this
    exact this rfl
/-! ### The counts -/
set_option maxHeartbeats 4000000 in
theorem counts0_run (m : List Bd) (hm : m.length ≤ 140737488355) (Q : Bool → D → H → Prop) (hQ : ∀ b F, (∀ s, F s = cntB m s) → Q true (.raw (.map (some b))) [.keep b (NMapIs F)]) : yfun TT 27 [.sl none 6 (bnsD m)] [] Q := by
  have hBi := bns_idb m
  have hBl := bns_len m
  have hat := fun i => bns_at (m := m) (i := i)
  obtain ⟨iu, hu1, hu2⟩ := info_int9
  generalize bnsD m = BS at hBi hBl hat ⊢
  cbv
  (repeat'((first|(apply zS;kernel_rfl)|(apply zD;decide +kernel)|(apply zE;decide +kernel)|(apply zF;decide +kernel)|(apply zL;decide +kernel)|(apply zM;decide +kernel)|(apply zN;intros)|(apply zO;intros)|(apply zT;omega)|(apply zU;omega)|(apply zP;omega;intros)|(apply zQ;omega;intros)|apply zR);cbv))
  refine ⟨9, 3, by kernel_rfl, ?_⟩
  intro b F0 hF0
  cbv
  (repeat'((first|(apply zS;kernel_rfl)|(apply zD;decide +kernel)|(apply zE;decide +kernel)|(apply zF;decide +kernel)|(apply zL;decide +kernel)|(apply zM;decide +kernel)|(apply zN;intros)|(apply zO;intros)|(apply zT;omega)|(apply zU;omega)|(apply zP;omega;intros)|(apply zQ;omega;intros)|apply zR);cbv))
  refine LoopK.put (X := Int × (ByteArray → Int)) (fun x => [(11, .raw (.int .i64 x.1))]) (fun x => [(0, .keep b (NMapIs x.2))]) (fun x => m.length - x.1.toNat)
    (fun x => 0 ≤ x.1 ∧ x.1.toNat ≤ m.length ∧ ∀ s, x.2 s = cntB (m.take x.1.toNat) s) (0, F0) ⟨by simp, by simp, fun s => by rw [hF0]; rfl⟩ rfl rfl ?_
  clear hF0
  rintro ⟨i, F⟩ N ⟨h0, hi, hF⟩ hN
  simp only at h0 hi hF hN ⊢
  cbv
  (repeat'((first|(apply zS;kernel_rfl)|(apply zD;decide +kernel)|(apply zE;decide +kernel)|(apply zF;decide +kernel)|(apply zL;decide +kernel)|(apply zM;decide +kernel)|(apply zN;intros)|(apply zO;intros)|(apply zT;omega)|(apply zU;omega)|(apply zP;omega;intros)|(apply zQ;omega;intros)|apply zR);cbv))
  refine BinK.lss ?_ ?_ <;> intro hlt <;> cbv <;> (repeat'((first|(apply zS;kernel_rfl)|(apply zD;decide +kernel)|(apply zE;decide +kernel)|(apply zF;decide +kernel)|(apply zL;decide +kernel)|(apply zM;decide +kernel)|(apply zN;intros)|(apply zO;intros)|(apply zT;omega)|(apply zU;omega)|(apply zP;omega;intros)|(apply zQ;omega;intros)|apply zR);cbv))
  · obtain ⟨p, hp, hB⟩ := hat i.toNat (by omega)
    have htake : m.take (i.toNat + 1) = m.take i.toNat ++ [p] := by
      obtain ⟨h1, h2⟩ := List.getElem?_eq_some_iff.1 hp
      rw [List.take_succ_eq_append_getElem h1, h2]
    have hle : 0 ≤ F p.1 ∧ F p.1 ≤ 140737488355 := by
      have := cntB_le (m.take i.toNat) p.1
      rw [List.length_take] at this
      rw [hF]
      omega
    have hstep : ∀ r : Int, r = i + 1 → ∀ z : Int, z = F p.1 + 1 → ∀ G : ByteArray → Int, G = (fun x => if x = p.1 then z else F x) → ∀ s, G s = cntB (m.take r.toNat) s := fun r hr z hz G hG s => by
      rw [show r.toNat = i.toNat + 1 by omega, htake, cntB_snoc, hG]
      simp only
      by_cases e : s = p.1
      · rw [if_pos e, if_pos e.symm, hz, hF, e]
      · rw [if_neg e, if_neg (fun h => e h.symm), hF]
        omega
    obtain ⟨k0, n0, m0, L0, K0, f0, f1, j1, j2⟩ := bn_node p
    rw [f0] at hB
    generalize p.1 = pn at hB hstep hle
    clear f0 f1 hF hat
    refine IdxK.intro h0 hB ?_
    cbv
    (repeat'((first|(apply zS;kernel_rfl)|(apply zD;decide +kernel)|(apply zE;decide +kernel)|(apply zF;decide +kernel)|(apply zL;decide +kernel)|(apply zM;decide +kernel)|(apply zN;intros)|(apply zO;intros)|(apply zT;omega)|(apply zU;omega)|(apply zP;omega;intros)|(apply zQ;omega;intros)|apply zR);cbv))
    refine ⟨0, F, 9, 3, iu, rfl, by kernel_rfl, by kernel_rfl, hu1, hu2, ?_⟩
    generalize hz : F pn = z at hle hstep ⊢
    cbv
    (repeat'((first|(apply zS;kernel_rfl)|(apply zD;decide +kernel)|(apply zE;decide +kernel)|(apply zF;decide +kernel)|(apply zL;decide +kernel)|(apply zM;decide +kernel)|(apply zN;intros)|(apply zO;intros)|(apply zT;omega)|(apply zU;omega)|(apply zP;omega;intros)|(apply zQ;omega;intros)|apply zR);cbv))
    rename_i z1 hz1
    refine ⟨0, F, 9, 3, rfl, by kernel_rfl, by kernel_rfl, ?_⟩
    intro G hG
    cbv
    (repeat'((first|(apply zS;kernel_rfl)|(apply zD;decide +kernel)|(apply zE;decide +kernel)|(apply zF;decide +kernel)|(apply zL;decide +kernel)|(apply zM;decide +kernel)|(apply zN;intros)|(apply zO;intros)|(apply zT;omega)|(apply zU;omega)|(apply zP;omega;intros)|(apply zQ;omega;intros)|apply zR);cbv))
    rename_i r hr
    refine RoundK.forget (r, G) ⟨by omega, by omega, hstep r hr z1 hz1 G hG⟩ (by omega) rfl rfl ?_ ?_
    · simp [idbL, idb, hBi, j1, j2]
    · simp [cellIdb]
  · have hall : m.take i.toNat = m := List.take_of_length_le (by omega)
    rw [hall] at hF
    exact ⟨hQ _ _ hF⟩
theorem counts0_cw (m : List Bd) (hm : m.length ≤ 140737488355) : CW (TT ()) 27 [.sl none 6 (bnsD m)] [] fun d h' => ∃ b F, d = .raw (.map (some b)) ∧ (∀ s, F s = cntB m s) ∧ h' = [.keep b (NMapIs F)] := by
  have c0 : CX (TT ()) 27 [.sl none 6 (bnsD m)] [] fun bo d h' => bo = true ∧ ∃ b F, d = .raw (.map (some b)) ∧ (∀ s, F s = cntB m s) ∧ h' = [.keep b (NMapIs F)] :=
    yfun_ok (T := TT) (by kernel_rfl) (counts0_run m hm _ fun b F hF => ⟨rfl, b, F, rfl, hF, rfl⟩)
  exact c0.cw fun bo d h' h => h
set_option maxHeartbeats 4000000 in
theorem counts1_run (m : List Bd) (hm : m.length ≤ 140737488355) (c : Cell) (hc : cellIdb 2 c = true) (Q : Bool → D → H → Prop) (hQ : ∀ b F, (∀ s, F s = cntB m s) → Q true (.raw (.map (some b))) [c, .keep b (NMapIs F)]) : yfun TT 27 [.sl none 6 (bnsD m)] [c] Q := by
  have hBi := bns_idb m
  have hBl := bns_len m
  have hat := fun i => bns_at (m := m) (i := i)
  obtain ⟨iu, hu1, hu2⟩ := info_int9
  generalize bnsD m = BS at hBi hBl hat ⊢
  cbv
  (repeat'((first|(apply zS;kernel_rfl)|(apply zD;decide +kernel)|(apply zE;decide +kernel)|(apply zF;decide +kernel)|(apply zL;decide +kernel)|(apply zM;decide +kernel)|(apply zN;intros)|(apply zO;intros)|(apply zT;omega)|(apply zU;omega)|(apply zP;omega;intros)|(apply zQ;omega;intros)|apply zR);cbv))
  refine ⟨9, 3, by kernel_rfl, ?_⟩
  intro b F0 hF0
  cbv
  (repeat'((first|(apply zS;kernel_rfl)|(apply zD;decide +kernel)|(apply zE;decide +kernel)|(apply zF;decide +kernel)|(apply zL;decide +kernel)|(apply zM;decide +kernel)|(apply zN;intros)|(apply zO;intros)|(apply zT;omega)|(apply zU;omega)|(apply zP;omega;intros)|(apply zQ;omega;intros)|apply zR);cbv))
  refine LoopK.put (X := Int × (ByteArray → Int)) (fun x => [(11, .raw (.int .i64 x.1))]) (fun x => [(1, .keep b (NMapIs x.2))]) (fun x => m.length - x.1.toNat)
    (fun x => 0 ≤ x.1 ∧ x.1.toNat ≤ m.length ∧ ∀ s, x.2 s = cntB (m.take x.1.toNat) s) (0, F0) ⟨by simp, by simp, fun s => by rw [hF0]; rfl⟩ rfl rfl ?_
  clear hF0
  rintro ⟨i, F⟩ N ⟨h0, hi, hF⟩ hN
  simp only at h0 hi hF hN ⊢
  cbv
  (repeat'((first|(apply zS;kernel_rfl)|(apply zD;decide +kernel)|(apply zE;decide +kernel)|(apply zF;decide +kernel)|(apply zL;decide +kernel)|(apply zM;decide +kernel)|(apply zN;intros)|(apply zO;intros)|(apply zT;omega)|(apply zU;omega)|(apply zP;omega;intros)|(apply zQ;omega;intros)|apply zR);cbv))
  refine BinK.lss ?_ ?_ <;> intro hlt <;> cbv <;> (repeat'((first|(apply zS;kernel_rfl)|(apply zD;decide +kernel)|(apply zE;decide +kernel)|(apply zF;decide +kernel)|(apply zL;decide +kernel)|(apply zM;decide +kernel)|(apply zN;intros)|(apply zO;intros)|(apply zT;omega)|(apply zU;omega)|(apply zP;omega;intros)|(apply zQ;omega;intros)|apply zR);cbv))
  · obtain ⟨p, hp, hB⟩ := hat i.toNat (by omega)
    have htake : m.take (i.toNat + 1) = m.take i.toNat ++ [p] := by
      obtain ⟨h1, h2⟩ := List.getElem?_eq_some_iff.1 hp
      rw [List.take_succ_eq_append_getElem h1, h2]
    have hle : 0 ≤ F p.1 ∧ F p.1 ≤ 140737488355 := by
      have := cntB_le (m.take i.toNat) p.1
      rw [List.length_take] at this
      rw [hF]
      omega
    have hstep : ∀ r : Int, r = i + 1 → ∀ z : Int, z = F p.1 + 1 → ∀ G : ByteArray → Int, G = (fun x => if x = p.1 then z else F x) → ∀ s, G s = cntB (m.take r.toNat) s := fun r hr z hz G hG s => by
      rw [show r.toNat = i.toNat + 1 by omega, htake, cntB_snoc, hG]
      simp only
      by_cases e : s = p.1
      · rw [if_pos e, if_pos e.symm, hz, hF, e]
      · rw [if_neg e, if_neg (fun h => e h.symm), hF]
        omega
    obtain ⟨k0, n0, m0, L0, K0, f0, f1, j1, j2⟩ := bn_node p
    rw [f0] at hB
    generalize p.1 = pn at hB hstep hle
    clear f0 f1 hF hat
    refine IdxK.intro h0 hB ?_
    cbv
    (repeat'((first|(apply zS;kernel_rfl)|(apply zD;decide +kernel)|(apply zE;decide +kernel)|(apply zF;decide +kernel)|(apply zL;decide +kernel)|(apply zM;decide +kernel)|(apply zN;intros)|(apply zO;intros)|(apply zT;omega)|(apply zU;omega)|(apply zP;omega;intros)|(apply zQ;omega;intros)|apply zR);cbv))
    refine ⟨1, F, 9, 3, iu, rfl, by kernel_rfl, by kernel_rfl, hu1, hu2, ?_⟩
    generalize hz : F pn = z at hle hstep ⊢
    cbv
    (repeat'((first|(apply zS;kernel_rfl)|(apply zD;decide +kernel)|(apply zE;decide +kernel)|(apply zF;decide +kernel)|(apply zL;decide +kernel)|(apply zM;decide +kernel)|(apply zN;intros)|(apply zO;intros)|(apply zT;omega)|(apply zU;omega)|(apply zP;omega;intros)|(apply zQ;omega;intros)|apply zR);cbv))
    rename_i z1 hz1
    refine ⟨1, F, 9, 3, rfl, by kernel_rfl, by kernel_rfl, ?_⟩
    intro G hG
    cbv
    (repeat'((first|(apply zS;kernel_rfl)|(apply zD;decide +kernel)|(apply zE;decide +kernel)|(apply zF;decide +kernel)|(apply zL;decide +kernel)|(apply zM;decide +kernel)|(apply zN;intros)|(apply zO;intros)|(apply zT;omega)|(apply zU;omega)|(apply zP;omega;intros)|(apply zQ;omega;intros)|apply zR);cbv))
    rename_i r hr
    refine RoundK.forget (r, G) ⟨by omega, by omega, hstep r hr z1 hz1 G hG⟩ (by omega) rfl rfl ?_ ?_
    · simp [idbL, idb, hBi, j1, j2]
    · simpa [cellIdb] using hc
  · have hall : m.take i.toNat = m := List.take_of_length_le (by omega)
    rw [hall] at hF
    exact ⟨hQ _ _ hF⟩
theorem counts1_cw (m : List Bd) (hm : m.length ≤ 140737488355) (c : Cell) (hc : cellIdb 2 c = true) : CW (TT ()) 27 [.sl none 6 (bnsD m)] [c] fun d h' => ∃ b F, d = .raw (.map (some b)) ∧ (∀ s, F s = cntB m s) ∧ h' = [c, .keep b (NMapIs F)] := by
  have c0 : CX (TT ()) 27 [.sl none 6 (bnsD m)] [c] fun bo d h' => bo = true ∧ ∃ b F, d = .raw (.map (some b)) ∧ (∀ s, F s = cntB m s) ∧ h' = [c, .keep b (NMapIs F)] :=
    yfun_ok (T := TT) (by kernel_rfl) (counts1_run m hm c hc _ fun b F hF => ⟨rfl, b, F, rfl, hF, rfl⟩)
  exact c0.cw fun bo d h' h => h
/-! ### A bound -/
theorem pnvar9_cp (s : ByteArray) (hs : s.size ≤ maxLen) : CP (TT ()) 28 [.raw (.string s)] (· = .raw (.bool (varB s))) :=
  cp_raw (callable_at Try.func28 (by kernel_rfl) rfl) fun S w args r => by
    obtain ⟨v, rfl, h⟩ := rdL_one r
    simp only [Pv.Rd] at h
    subst h
    exact var_any s w hs
theorem pright9_cp (t : Ty5) (ho : okT t) : CP (TT ()) 36 [tyD t] (· = .raw (.bool (rightT varB risingB t))) :=
  cp_raw (callable_at Try.func36 (by kernel_rfl) rfl) fun S w args r => by
    obtain ⟨v, rfl, h⟩ := rdL_one r
    obtain ⟨v0, v1, v2, v3, v4, rfl, hT⟩ := ty_in t ho h
    exact pright_any t v0 v1 v2 v3 v4 w hT
theorem phas9_cp (kd : Int) (t : Ty5) (ho : okT t) : CP (TT ()) 37 [tyD t, .raw (.int .i64 kd)] (· = .raw (.bool (hasT kd t))) :=
  cp_raw (callable_at Try.func37 (by kernel_rfl) rfl) fun S w args r => by
    obtain ⟨v, v', rfl, h, h'⟩ := rdL_two r
    simp only [Pv.Rd] at h'
    subst h'
    obtain ⟨v0, v1, v2, v3, v4, rfl, hT⟩ := ty_in t ho h
    exact phas_any t kd v0 v1 v2 v3 v4 w hT
def bndT (t : Ty5) : Bool := rightT varB risingB t && !hasT 6 t && !hasT 9 t
set_option maxHeartbeats 4000000 in
theorem pbound_cp (t : Ty5) (ho : okT t) : CP (TT ()) 29 [tyD t] (· = .raw (.bool (bndT t))) := by
  have cR := pright9_cp t ho
  have cC := phas9_cp 6 t ho
  have cH := phas9_cp 9 t ho
  have hp := ty_pure t
  refine c4_run fun Q hQ => ?_
  unfold bndT at hQ
  generalize rightT varB risingB t = b2 at cR hQ
  generalize hasT 6 t = b3 at cC hQ
  generalize hasT 9 t = b4 at cH hQ
  obtain ⟨k, n, nm, L, K, f0, _, _⟩ := c4_node t
  rw [f0] at cR cC cH hp ⊢
  cbv
  (repeat'((first|(apply zS;kernel_rfl)|(apply zD;decide +kernel)|(apply zE;decide +kernel)|(apply zF;decide +kernel)|(apply zL;decide +kernel)|(apply zM;decide +kernel)|(apply zN;intros)|(apply zO;intros)|(apply zT;omega)|(apply zU;omega)|(apply zP;omega;intros)|(apply zQ;omega;intros)|apply zR);cbv))
  refine .one cR (cons_pure hp rfl) rfl ?_
  cases b2 with
  | false =>
    cbv
    (repeat'((first|(apply zS;kernel_rfl)|(apply zD;decide +kernel)|(apply zE;decide +kernel)|(apply zF;decide +kernel)|(apply zL;decide +kernel)|(apply zM;decide +kernel)|(apply zN;intros)|(apply zO;intros)|(apply zT;omega)|(apply zU;omega)|(apply zP;omega;intros)|(apply zQ;omega;intros)|apply zR);cbv))
    exact ⟨hQ _⟩
  | true =>
    cbv
    (repeat'((first|(apply zS;kernel_rfl)|(apply zD;decide +kernel)|(apply zE;decide +kernel)|(apply zF;decide +kernel)|(apply zL;decide +kernel)|(apply zM;decide +kernel)|(apply zN;intros)|(apply zO;intros)|(apply zT;omega)|(apply zU;omega)|(apply zP;omega;intros)|(apply zQ;omega;intros)|apply zR);cbv))
    refine .one cC (cons_pure hp rfl) rfl ?_
    cases b3 with
    | true =>
      cbv
      (repeat'((first|(apply zS;kernel_rfl)|(apply zD;decide +kernel)|(apply zE;decide +kernel)|(apply zF;decide +kernel)|(apply zL;decide +kernel)|(apply zM;decide +kernel)|(apply zN;intros)|(apply zO;intros)|(apply zT;omega)|(apply zU;omega)|(apply zP;omega;intros)|(apply zQ;omega;intros)|apply zR);cbv))
      exact ⟨hQ _⟩
    | false =>
      cbv
      (repeat'((first|(apply zS;kernel_rfl)|(apply zD;decide +kernel)|(apply zE;decide +kernel)|(apply zF;decide +kernel)|(apply zL;decide +kernel)|(apply zM;decide +kernel)|(apply zN;intros)|(apply zO;intros)|(apply zT;omega)|(apply zU;omega)|(apply zP;omega;intros)|(apply zQ;omega;intros)|apply zR);cbv))
      refine .one cH (cons_pure hp rfl) rfl ?_
      cases b4 <;> cbv <;> (repeat'((first|(apply zS;kernel_rfl)|(apply zD;decide +kernel)|(apply zE;decide +kernel)|(apply zF;decide +kernel)|(apply zL;decide +kernel)|(apply zM;decide +kernel)|(apply zN;intros)|(apply zO;intros)|(apply zT;omega)|(apply zU;omega)|(apply zP;omega;intros)|(apply zQ;omega;intros)|apply zR);cbv)) <;> exact ⟨hQ _⟩
/-! ### Right -/
def stepP9 (m : List Bd) (p : Bd) : Bool := !decide (1 < cntB m p.1) && varB p.1 && bndT p.2
def rightP9 (m : List Bd) : Bool := m.all (stepP9 m)
theorem rightP9_at {m : List Bd} : rightP9 m = true ↔ ∀ (i : Nat) (p : Bd), m[i]? = some p → stepP9 m p = true := by
  unfold rightP9
  rw [List.all_eq_true]
  constructor
  · intro h i p hp
    exact h p (List.mem_of_getElem? hp)
  · intro h p hp
    obtain ⟨i, hi⟩ := List.getElem?_of_mem hp
    exact h i p hi
set_option maxHeartbeats 4000000 in
theorem pright_run9 (m : List Bd) (hm : m.length ≤ 140737488355) (ho : okB m) (Q : Bool → D → H → Prop) (hQ : ∀ h', Q true (.raw (.bool (rightP9 m))) h') : yfun TT 12 [.sl none 6 (bnsD m)] [] Q := by
  have q2 : rightP9 m ≠ true → ∀ h', Q true (.raw (.bool false)) h' := fun h => by rw [Bool.eq_false_iff.2 h] at hQ; exact hQ
  have q3 : rightP9 m = true → ∀ h', Q true (.raw (.bool true)) h' := fun h => by rw [h] at hQ; exact hQ
  clear hQ
  have cC := counts0_cw m hm
  have hBi := bns_idb m
  have hBl := bns_len m
  have hat := fun i => bns_at (m := m) (i := i)
  obtain ⟨iu, hu1, hu2⟩ := info_int9
  generalize bnsD m = BS at cC hBi hBl hat ⊢
  cbv
  (repeat'((first|(apply zS;kernel_rfl)|(apply zD;decide +kernel)|(apply zE;decide +kernel)|(apply zF;decide +kernel)|(apply zL;decide +kernel)|(apply zM;decide +kernel)|(apply zN;intros)|(apply zO;intros)|(apply zT;omega)|(apply zU;omega)|(apply zP;omega;intros)|(apply zQ;omega;intros)|apply zR);cbv))
  refine XCallK.mut cC ?_
  rintro d h' ⟨b, F, rfl, hF, rfl⟩
  clear cC
  cbv
  (repeat'((first|(apply zS;kernel_rfl)|(apply zD;decide +kernel)|(apply zE;decide +kernel)|(apply zF;decide +kernel)|(apply zL;decide +kernel)|(apply zM;decide +kernel)|(apply zN;intros)|(apply zO;intros)|(apply zT;omega)|(apply zU;omega)|(apply zP;omega;intros)|(apply zQ;omega;intros)|apply zR);cbv))
  refine LoopK.put (X := Int) (fun x => [(10, .raw (.int .i64 x))]) (fun _ => []) (fun x => m.length - x.toNat)
    (fun x => 0 ≤ x ∧ x.toNat ≤ m.length ∧ ∀ (j : Nat) (p : Bd), j < x.toNat → m[j]? = some p → stepP9 m p = true) 0 ⟨by simp, by simp, fun j s hj => absurd hj (Nat.not_lt_zero _)⟩ rfl rfl ?_
  rintro i N ⟨h0, hi, hj⟩ hN
  simp only at h0 hi hj hN ⊢
  cbv
  (repeat'((first|(apply zS;kernel_rfl)|(apply zD;decide +kernel)|(apply zE;decide +kernel)|(apply zF;decide +kernel)|(apply zL;decide +kernel)|(apply zM;decide +kernel)|(apply zN;intros)|(apply zO;intros)|(apply zT;omega)|(apply zU;omega)|(apply zP;omega;intros)|(apply zQ;omega;intros)|apply zR);cbv))
  refine BinK.lss ?_ ?_ <;> intro hlt <;> cbv <;> (repeat'((first|(apply zS;kernel_rfl)|(apply zD;decide +kernel)|(apply zE;decide +kernel)|(apply zF;decide +kernel)|(apply zL;decide +kernel)|(apply zM;decide +kernel)|(apply zN;intros)|(apply zO;intros)|(apply zT;omega)|(apply zU;omega)|(apply zP;omega;intros)|(apply zQ;omega;intros)|apply zR);cbv))
  · obtain ⟨p, hp, hB⟩ := hat i.toNat (by omega)
    obtain ⟨k0, n0, m0, L0, K0, f0, f1, j1, j2⟩ := bn_node p
    rw [f0] at hB
    have hpo := ho p (List.mem_of_getElem? hp)
    have cV := pnvar9_cp p.1 hpo.1
    have cR := pbound_cp p.2 hpo.2
    have hTp := ty_pure p.2
    have hno : stepP9 m p = false → ∀ h', Q true (.raw (.bool false)) h' := fun h => q2 fun g => by
      rw [rightP9_at.1 g _ _ hp] at h
      cases h
    have hnext : stepP9 m p = true → ∀ r : Int, r = i + 1 → ∀ (j : Nat) (p : Bd), j < r.toNat → m[j]? = some p → stepP9 m p = true := fun h r hr j x hjr hx => by
      by_cases hji : j = i.toNat
      · rw [hji, hp] at hx
        cases hx
        exact h
      · exact hj j x (by omega) hx
    have hle := cntB_le m p.1
    rw [f1] at cR hTp
    unfold stepP9 at hno
    have hstep : stepP9 m p = (!decide (1 < cntB m p.1) && varB p.1 && bndT p.2) := rfl
    rw [hstep] at hnext
    rw [← hF] at hle hno hnext
    clear f0 f1 hj q2 q3 hstep hat
    generalize bndT p.2 = b2 at cR hno hnext
    generalize varB p.1 = b1 at cV hno hnext
    generalize p.1 = pn at hB cV hle hno hnext
    refine IdxK.intro h0 hB ?_
    cbv
    (repeat'((first|(apply zS;kernel_rfl)|(apply zD;decide +kernel)|(apply zE;decide +kernel)|(apply zF;decide +kernel)|(apply zL;decide +kernel)|(apply zM;decide +kernel)|(apply zN;intros)|(apply zO;intros)|(apply zT;omega)|(apply zU;omega)|(apply zP;omega;intros)|(apply zQ;omega;intros)|apply zR);cbv))
    refine ⟨0, F, 9, 3, iu, rfl, by kernel_rfl, by kernel_rfl, hu1, hu2, ?_⟩
    generalize hz : F pn = z at hle hno hnext ⊢
    cbv
    (repeat'((first|(apply zS;kernel_rfl)|(apply zD;decide +kernel)|(apply zE;decide +kernel)|(apply zF;decide +kernel)|(apply zL;decide +kernel)|(apply zM;decide +kernel)|(apply zN;intros)|(apply zO;intros)|(apply zT;omega)|(apply zU;omega)|(apply zP;omega;intros)|(apply zQ;omega;intros)|apply zR);cbv))
    refine BinK.gtr ?_ ?_ <;> intro hc <;> cbv <;> (repeat'((first|(apply zS;kernel_rfl)|(apply zD;decide +kernel)|(apply zE;decide +kernel)|(apply zF;decide +kernel)|(apply zL;decide +kernel)|(apply zM;decide +kernel)|(apply zN;intros)|(apply zO;intros)|(apply zT;omega)|(apply zU;omega)|(apply zP;omega;intros)|(apply zQ;omega;intros)|apply zR);cbv))
    · have hno := hno (by rw [decide_eq_true (by omega : 1 < z)]; rfl)
      exact ⟨hno _⟩
    · rw [decide_eq_false (by omega : ¬ 1 < z)] at hno hnext
      refine .one cV rfl rfl ?_
      cases b1 with
      | false =>
        have hno := hno rfl
        cbv
        (repeat'((first|(apply zS;kernel_rfl)|(apply zD;decide +kernel)|(apply zE;decide +kernel)|(apply zF;decide +kernel)|(apply zL;decide +kernel)|(apply zM;decide +kernel)|(apply zN;intros)|(apply zO;intros)|(apply zT;omega)|(apply zU;omega)|(apply zP;omega;intros)|(apply zQ;omega;intros)|apply zR);cbv))
        exact ⟨hno _⟩
      | true =>
        cbv
        (repeat'((first|(apply zS;kernel_rfl)|(apply zD;decide +kernel)|(apply zE;decide +kernel)|(apply zF;decide +kernel)|(apply zL;decide +kernel)|(apply zM;decide +kernel)|(apply zN;intros)|(apply zO;intros)|(apply zT;omega)|(apply zU;omega)|(apply zP;omega;intros)|(apply zQ;omega;intros)|apply zR);cbv))
        refine .one cR (cons_pure hTp rfl) rfl ?_
        cases b2 with
        | false =>
          have hno := hno rfl
          cbv
          (repeat'((first|(apply zS;kernel_rfl)|(apply zD;decide +kernel)|(apply zE;decide +kernel)|(apply zF;decide +kernel)|(apply zL;decide +kernel)|(apply zM;decide +kernel)|(apply zN;intros)|(apply zO;intros)|(apply zT;omega)|(apply zU;omega)|(apply zP;omega;intros)|(apply zQ;omega;intros)|apply zR);cbv))
          exact ⟨hno _⟩
        | true =>
          have hnext := hnext rfl
          clear hno
          cbv
          (repeat'((first|(apply zS;kernel_rfl)|(apply zD;decide +kernel)|(apply zE;decide +kernel)|(apply zF;decide +kernel)|(apply zL;decide +kernel)|(apply zM;decide +kernel)|(apply zN;intros)|(apply zO;intros)|(apply zT;omega)|(apply zU;omega)|(apply zP;omega;intros)|(apply zQ;omega;intros)|apply zR);cbv))
          rename_i r hr
          refine RoundK.forget r ⟨by omega, by omega, hnext r hr⟩ (by omega) rfl rfl ?_ ?_
          · simp [idbL, idb, hBi, j1, j2]
          · simp [cellIdb]
  · exact ⟨q3 (rightP9_at.2 fun j p hp => hj j p (by have := (List.getElem?_eq_some_iff.1 hp).1; omega) hp) _⟩
theorem yone {k : FuncId} {ds : List D} {u : Value} (h : ∀ Q : Bool → D → H → Prop, (∀ h', Q true (.raw u) h') → yfun TT k ds [] Q) : CP (TT ()) k ds (· = .raw u) :=
  ((yfun_ok (T := TT) (by kernel_rfl) (h (fun b d _ => b = true ∧ d = .raw u) fun _ => ⟨rfl, rfl⟩)).cw (R := fun d _ => d = .raw u) fun _ _ _ h => h).cp fun d h' h => ⟨d, by rw [h]; rfl, h⟩
theorem pright9m_cp (m : List Bd) (hm : m.length ≤ 140737488355) (ho : okB m) : CP (TT ()) 12 [.sl none 6 (bnsD m)] (· = .raw (.bool (rightP9 m))) := yone fun Q hQ => pright_run9 m hm ho Q hQ
/-! Both say the same -/
theorem nodup_take {l : List ByteArray} : l.Nodup ↔ ∀ (i : Nat) (s : ByteArray), l[i]? = some s → s ∉ l.take i := by
  rw [List.Nodup, List.pairwise_iff_getElem]
  constructor
  · intro h i s hs hm
    obtain ⟨h1, h2⟩ := List.getElem?_eq_some_iff.1 hs
    obtain ⟨j, hj, e⟩ := List.getElem_of_mem hm
    rw [List.length_take] at hj
    rw [List.getElem_take] at e
    exact h j i (by omega) h1 (by omega) (e.trans h2.symm)
  · intro h i j hi hj hij e
    refine h j _ (List.getElem?_eq_getElem hj) ?_
    rw [← e]
    exact List.mem_of_getElem? (i := i) (by rw [List.getElem?_take, if_pos hij, List.getElem?_eq_getElem hi])
theorem cntB_cons (p : Bd) (m : List Bd) (s : ByteArray) : cntB (p :: m) s = (if p.1 = s then 1 else 0) + cntB m s := by
  unfold cntB
  by_cases h : p.1 = s
  · rw [if_pos h, List.filter_cons_of_pos (by simpa using h), List.length_cons]
    omega
  · rw [if_neg h, List.filter_cons_of_neg (by simpa using h)]
    omega
theorem nodup_cnt : ∀ {m : List Bd}, (m.map Prod.fst).Nodup ↔ ∀ p ∈ m, ¬ 1 < cntB m p.1
  | [] => by simp
  | p :: m => by
    rw [List.map_cons, List.nodup_cons, nodup_cnt (m := m), ← cntB_zero]
    constructor
    · rintro ⟨h1, h2⟩ q hq
      rw [cntB_cons]
      by_cases e : p.1 = q.1
      · rw [if_pos e, ← e, h1]
        omega
      · rw [if_neg e]
        have := h2 q ((List.mem_cons.1 hq).resolve_left fun h => e (by rw [h]))
        omega
    · intro h
      refine ⟨?_, fun q hq => ?_⟩
      · have := h p (List.mem_cons_self ..)
        have h0 := (cntB_le m p.1).1
        rw [cntB_cons, if_pos rfl] at this
        omega
      · have := h q (List.mem_cons_of_mem _ hq)
        rw [cntB_cons] at this
        split at this <;> omega
theorem rightP9_eq (m : List Bd) : rightP9 m = rightB9 m := by
  rw [Bool.eq_iff_iff, rightP9_at, rightB9_at]
  have hp : ∀ p : Bd, stepP9 m p = true ↔ ¬ 1 < cntB m p.1 ∧ varB p.1 = true ∧ bndT p.2 = true := fun p => by
    unfold stepP9
    rw [Bool.and_eq_true, Bool.and_eq_true, Bool.not_eq_true', decide_eq_false_iff_not, and_assoc]
  have hb : ∀ (i : Nat) (p : Bd), stepR9 m i p = true ↔ p.1 ∉ (m.map Prod.fst).take i ∧ varB p.1 = true ∧ bndT p.2 = true := fun i p => by
    unfold stepR9 bndT
    simp only [Bool.and_eq_true, decide_eq_true_eq, place_mem, List.map_take]
    constructor
    · rintro ⟨⟨⟨⟨h1, h2⟩, h3⟩, h4⟩, h5⟩
      exact ⟨h2, h1, ⟨h3, h4⟩, h5⟩
    · rintro ⟨h2, h1, ⟨h3, h4⟩, h5⟩
      exact ⟨⟨⟨⟨h1, h2⟩, h3⟩, h4⟩, h5⟩
  have hn : (∀ p ∈ m, ¬ 1 < cntB m p.1) ↔ ∀ (i : Nat) (p : Bd), m[i]? = some p → p.1 ∉ (m.map Prod.fst).take i := by
    rw [← nodup_cnt, nodup_take]
    constructor
    · intro h i p hp
      exact h i p.1 (by rw [List.getElem?_map, hp]; rfl)
    · intro h i s hs
      rw [List.getElem?_map, Option.map_eq_some_iff] at hs
      obtain ⟨p, hp, rfl⟩ := hs
      exact h i p hp
  constructor
  · intro h i p hi
    have h1 := hn.1 (fun p hm => by
      obtain ⟨j, hj⟩ := List.getElem?_of_mem hm
      exact ((hp p).1 (h j p hj)).1) i p hi
    exact (hb i p).2 ⟨h1, ((hp p).1 (h i p hi)).2⟩
  · intro h i p hi
    have h1 := hn.2 (fun j p hj => ((hb j p).1 (h j p hj)).1) p (List.mem_of_getElem? hi)
    exact (hp p).2 ⟨h1, ((hb i p).1 (h i p hi)).2⟩
end Go.Proofs.Ytpnfbmhnmhahnaa
