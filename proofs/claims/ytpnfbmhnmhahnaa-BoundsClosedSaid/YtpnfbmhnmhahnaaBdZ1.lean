/- The landed package bounds: In; limbecklaw09.awake; what the laws need. -/
import Derived.Test.YtpnfbmhnmhahnaaBdY
import Derived.Test.YtpnfbmhnmhahnaaBdC1
import Derived.Test.YtpnfbmhnmhahnaaTyVq
namespace Go.Proofs.Ytpnfbmhnmhahnaa
open Go.RowKit Pv
set_option maxRecDepth 100000
/-- The variables of a type, by the landed package: a new row. -/
theorem pvars9_cp (t : Ty5) (ho : okT t) (hn : nodesT t ≤ 1000000) : CP (TT ()) 32 [tyD t] (· = .sl none 1 ((vrsT t).map strD)) := by
  refine ⟨callable_at Try.func32 (by kernel_rfl) rfl, fun S w args hS r => ?_⟩
  obtain ⟨v, rfl, h⟩ := rdL_one r
  obtain ⟨v0, v1, v2, v3, v4, rfl, hT⟩ := ty_in t ho h
  refine (pvars_any t v0 v1 v2 v3 v4 w hT hn).mono ?_
  rintro e w' ⟨v, L, rfl, hb, hs, hv, hl, hnew⟩
  obtain rfl : L = vrsT t := varsIs_unique hv (vrsT_is t)
  refine ⟨v, fun b o => S b o ∨ (w.heap.size ≤ b ∧ b < w'.heap.size), _, rfl, rfl, hb, fun _ _ h => .inl h, fun b o h => ?_, ?_⟩
  · rcases h with h | h
    · exact ⟨Nat.lt_of_lt_of_le (hS b o h) hb.size, fun _ => h⟩
    · exact ⟨h.2, fun hlt => absurd hlt (by omega)⟩
  · obtain ⟨hs1, hm, h⟩ := hs
    rcases h with ⟨a, cap, rfl, h0⟩ | ⟨b, off, cap, rfl, hbk, hc⟩
    · obtain ⟨n1, n2, _⟩ := hnew _ _ _ rfl
      rw [h0]
      exact ⟨⟨a, cap, by simp, by simp, n2⟩, fun h0 => absurd h0 (by simp), fun id e => by cases e⟩
    · obtain ⟨n1, n2, n3⟩ := hnew _ _ _ rfl
      refine ⟨⟨some ⟨b, off, none⟩, cap, by simp, by simpa using n1, n2⟩, fun h0 => ⟨b, off, cap, by simp, fun i hi => .inr ⟨n3 _ rfl, hbk⟩, ?_⟩, fun id e => by cases e⟩
      refine RdE.mk fun i d hd => ?_
      rw [List.getElem?_map, Option.map_eq_some_iff] at hd
      obtain ⟨s, h1, rfl⟩ := hd
      obtain ⟨hlt, h2⟩ := List.getElem?_eq_some_iff.1 h1
      refine ⟨.string s, rfl, rfl, fun c hc => by simp [Value.cells] at hc; subst hc; rfl, fun j hj => ?_⟩
      have : j = 0 := by simp [Value.cells] at hj; omega
      subst this
      rw [Nat.mul_one, Nat.add_zero, hc i hlt, stAt_get hlt, h2]
      rfl
/-! ### In -/
set_option maxHeartbeats 4000000 in
theorem pin_run (m : List Bd) (hm : m.length ≤ 140737488355) (t : Ty5) (cV : CP (TT ()) 32 [tyD t] (· = .sl none 1 ((vrsT t).map strD))) (hVn : (vrsT t).length ≤ 1000000) (Q : Bool → D → H → Prop) (hQ : ∀ h', Q true (.raw (.bool (inB9 m t))) h') : yfun TT 18 [.sl none 6 (bnsD m), tyD t] [] Q := by
  have q2 : inB9 m t ≠ true → ∀ h', Q true (.raw (.bool false)) h' := fun h => by rw [Bool.eq_false_iff.2 h] at hQ; exact hQ
  have q3 : inB9 m t = true → ∀ h', Q true (.raw (.bool true)) h' := fun h => by rw [h] at hQ; exact hQ
  clear hQ
  have cC := counts1_cw m hm
  have hVp := strs_pure (vrsT t)
  have hVl : ((vrsT t).map strD).length = (vrsT t).length := by simp
  have hVat := fun i => strs_at (ls := vrsT t) (i := i)
  have hTp := ty_pure t
  have hBp := bns_pure m
  obtain ⟨iu, hu1, hu2⟩ := info_int9
  generalize bnsD m = BS at cC hBp ⊢
  generalize (vrsT t).map strD = VS at cV hVp hVl hVat
  obtain ⟨k1, n1, m1, L1, K1, f1, i1, j1⟩ := c4_node t
  rw [f1] at cV hTp ⊢
  clear f1
  have cC := cC (.box 26 [.raw (.int .i64 k1), .raw (.int .i64 n1), .raw (.string m1), .sl none 1 L1, .sl none 5 K1]) (by simp [cellIdb, idbL, idb, i1, j1])
  cbv
  (repeat'((first|(apply zS;kernel_rfl)|(apply zD;decide +kernel)|(apply zE;decide +kernel)|(apply zF;decide +kernel)|(apply zL;decide +kernel)|(apply zM;decide +kernel)|(apply zN;intros)|(apply zO;intros)|(apply zT;omega)|(apply zU;omega)|(apply zP;omega;intros)|(apply zQ;omega;intros)|apply zR);cbv))
  refine XCallK.mut cC ?_
  rintro d h' ⟨b, F, rfl, hF, rfl⟩
  clear cC
  cbv
  (repeat'((first|(apply zS;kernel_rfl)|(apply zD;decide +kernel)|(apply zE;decide +kernel)|(apply zF;decide +kernel)|(apply zL;decide +kernel)|(apply zM;decide +kernel)|(apply zN;intros)|(apply zO;intros)|(apply zT;omega)|(apply zU;omega)|(apply zP;omega;intros)|(apply zQ;omega;intros)|apply zR);cbv))
  refine .one cV (cons_pure hTp rfl) (by simp [pureD, hVp]) ?_
  cbv
  (repeat'((first|(apply zS;kernel_rfl)|(apply zD;decide +kernel)|(apply zE;decide +kernel)|(apply zF;decide +kernel)|(apply zL;decide +kernel)|(apply zM;decide +kernel)|(apply zN;intros)|(apply zO;intros)|(apply zT;omega)|(apply zU;omega)|(apply zP;omega;intros)|(apply zQ;omega;intros)|apply zR);cbv))
  refine LoopK.put (X := Int) (fun x => [(13, .raw (.int .i64 x))]) (fun _ => []) (fun x => (vrsT t).length - x.toNat)
    (fun x => 0 ≤ x ∧ x.toNat ≤ (vrsT t).length ∧ ∀ (j : Nat) (s : ByteArray), j < x.toNat → (vrsT t)[j]? = some s → 0 ≤ placeI (m.map Prod.fst) s) 0 ⟨by simp, by simp, fun j s hj => absurd hj (Nat.not_lt_zero _)⟩ rfl rfl ?_
  rintro i N ⟨h0, hi, hj⟩ hN
  simp only at h0 hi hj hN ⊢
  cbv
  (repeat'((first|(apply zS;kernel_rfl)|(apply zD;decide +kernel)|(apply zE;decide +kernel)|(apply zF;decide +kernel)|(apply zL;decide +kernel)|(apply zM;decide +kernel)|(apply zN;intros)|(apply zO;intros)|(apply zT;omega)|(apply zU;omega)|(apply zP;omega;intros)|(apply zQ;omega;intros)|apply zR);cbv))
  refine BinK.lss ?_ ?_ <;> intro hlt <;> cbv <;> (repeat'((first|(apply zS;kernel_rfl)|(apply zD;decide +kernel)|(apply zE;decide +kernel)|(apply zF;decide +kernel)|(apply zL;decide +kernel)|(apply zM;decide +kernel)|(apply zN;intros)|(apply zO;intros)|(apply zT;omega)|(apply zU;omega)|(apply zP;omega;intros)|(apply zQ;omega;intros)|apply zR);cbv))
  · obtain ⟨u, hu, hV⟩ := hVat i.toNat (by omega)
    have hno : placeI (m.map Prod.fst) u < 0 → ∀ h', Q true (.raw (.bool false)) h' := fun h => q2 fun g => by
      have := inB9_at.1 g _ _ hu
      omega
    have hnext : 0 ≤ placeI (m.map Prod.fst) u → ∀ r : Int, r = i + 1 → ∀ (j : Nat) (s : ByteArray), j < r.toNat → (vrsT t)[j]? = some s → 0 ≤ placeI (m.map Prod.fst) s := fun h r hr j s hjr hs => by
      by_cases hji : j = i.toNat
      · rw [hji, hu] at hs
        cases hs
        exact h
      · exact hj j s (by omega) hs
    have hz0 : F u = 0 ↔ placeI (m.map Prod.fst) u < 0 := by rw [hF, cntB_zero, place_mem]
    generalize placeI (m.map Prod.fst) u = y at hno hnext hz0
    unfold strD at hV
    clear hj q2 q3
    refine IdxK.intro h0 hV ?_
    cbv
    (repeat'((first|(apply zS;kernel_rfl)|(apply zD;decide +kernel)|(apply zE;decide +kernel)|(apply zF;decide +kernel)|(apply zL;decide +kernel)|(apply zM;decide +kernel)|(apply zN;intros)|(apply zO;intros)|(apply zT;omega)|(apply zU;omega)|(apply zP;omega;intros)|(apply zQ;omega;intros)|apply zR);cbv))
    refine ⟨1, F, 9, 3, iu, rfl, by kernel_rfl, by kernel_rfl, hu1, hu2, ?_⟩
    generalize F u = z at hz0 ⊢
    cbv
    (repeat'((first|(apply zS;kernel_rfl)|(apply zD;decide +kernel)|(apply zE;decide +kernel)|(apply zF;decide +kernel)|(apply zL;decide +kernel)|(apply zM;decide +kernel)|(apply zN;intros)|(apply zO;intros)|(apply zT;omega)|(apply zU;omega)|(apply zP;omega;intros)|(apply zQ;omega;intros)|apply zR);cbv))
    refine BinK.eql ?_ ?_ <;> intro hz <;> cbv <;> (repeat'((first|(apply zS;kernel_rfl)|(apply zD;decide +kernel)|(apply zE;decide +kernel)|(apply zF;decide +kernel)|(apply zL;decide +kernel)|(apply zM;decide +kernel)|(apply zN;intros)|(apply zO;intros)|(apply zT;omega)|(apply zU;omega)|(apply zP;omega;intros)|(apply zQ;omega;intros)|apply zR);cbv))
    · have hno := hno (hz0.1 hz)
      exact ⟨hno _⟩
    · have hnext := hnext (by have := fun h => hz (hz0.2 h); omega)
      rename_i r hr
      refine RoundK.next r ⟨by omega, by omega, hnext r hr⟩ (by omega) rfl rfl
  · exact ⟨q3 (inB9_at.2 fun j s hs => hj j s (by have := (List.getElem?_eq_some_iff.1 hs).1; omega) hs) _⟩
theorem pin_cp (m : List Bd) (hm : m.length ≤ 140737488355) (t : Ty5) (ho : okT t) (hn : nodesT t ≤ 1000000) : CP (TT ()) 18 [.sl none 6 (bnsD m), tyD t] (· = .raw (.bool (inB9 m t))) := yone fun Q hQ => pin_run m hm t (pvars9_cp t ho hn) (Nat.le_trans (vrsT_len t) hn) Q hQ
/-! ### awake -/
theorem simple9_cp (k : Int) : CP (TT ()) 22 [.raw (.int .i64 k)] (· = tyD (.mk k 0 ⟨#[]⟩ [] [])) := by
  refine c4_runW (ty_pure _) fun Q hQ => ?_
  have hQ := fun h' => hQ (.agg [.raw (.int .i64 k), .raw (.int .i64 0), .raw (.string ⟨#[]⟩), .raw (.slice none 0 0), .raw (.slice none 0 0)]) h' (.agg (.cons (.refl _) (.cons (.refl _) (.cons (.refl _) (.cons (nil_any 1) (.cons (nil_any 5) .nil))))))
  cbv
  (repeat'((first|(apply zS;kernel_rfl)|(apply zD;decide +kernel)|(apply zE;decide +kernel)|(apply zF;decide +kernel)|(apply zL;decide +kernel)|(apply zM;decide +kernel)|(apply zN;intros)|(apply zO;intros)|(apply zT;omega)|(apply zU;omega)|(apply zP;omega;intros)|(apply zQ;omega;intros)|apply zR);cbv))
  exact ⟨hQ _⟩
theorem var9_cp (s : ByteArray) : CP (TT ()) 23 [.raw (.string s)] (· = tyD (.mk 6 0 s [] [])) := by
  refine c4_runW (ty_pure _) fun Q hQ => ?_
  have hQ := fun h' => hQ (.agg [.raw (.int .i64 6), .raw (.int .i64 0), .raw (.string s), .raw (.slice none 0 0), .raw (.slice none 0 0)]) h' (.agg (.cons (.refl _) (.cons (.refl _) (.cons (.refl _) (.cons (nil_any 1) (.cons (nil_any 5) .nil))))))
  cbv
  (repeat'((first|(apply zS;kernel_rfl)|(apply zD;decide +kernel)|(apply zE;decide +kernel)|(apply zF;decide +kernel)|(apply zL;decide +kernel)|(apply zM;decide +kernel)|(apply zN;intros)|(apply zO;intros)|(apply zT;omega)|(apply zU;omega)|(apply zP;omega;intros)|(apply zQ;omega;intros)|apply zR);cbv))
  exact ⟨hQ _⟩
def i9 : Ty5 := .mk 1 0 ⟨#[]⟩ [] []
def x9 : Ty5 := .mk 6 0 ⟨#[88]⟩ [] []
def y9 : Ty5 := .mk 6 0 ⟨#[89]⟩ [] []
def m9 : List Bd := [(⟨#[88]⟩, i9)]
theorem i9_ok : okT i9 := ⟨by decide, fun s h => (by cases h), trivial⟩
theorem x9_ok : okT x9 := ⟨by decide, fun s h => (by cases h), trivial⟩
theorem y9_ok : okT y9 := ⟨by decide, fun s h => (by cases h), trivial⟩
theorem m9_ok : okB m9 := fun p hp => by
  obtain rfl : p = (⟨#[88]⟩, i9) := by simpa [m9] using hp
  exact ⟨by decide, i9_ok⟩
set_option maxHeartbeats 4000000 in
theorem awake9_cp : CP (TT ()) 7 [] (· = .raw (.bool true)) := by
  have c1 : CP (TT ()) 22 [.raw (.int .i64 1)] (· = .agg [.raw (.int .i64 1), .raw (.int .i64 0), .raw (.string ⟨#[]⟩), .sl none 1 [], .sl none 5 []]) := simple9_cp 1
  have c2 : CP (TT ()) 23 [.raw (.string ⟨#[88]⟩)] (· = .agg [.raw (.int .i64 6), .raw (.int .i64 0), .raw (.string ⟨#[88]⟩), .sl none 1 [], .sl none 5 []]) := var9_cp ⟨#[88]⟩
  have c3 : CP (TT ()) 23 [.raw (.string ⟨#[89]⟩)] (· = .agg [.raw (.int .i64 6), .raw (.int .i64 0), .raw (.string ⟨#[89]⟩), .sl none 1 [], .sl none 5 []]) := var9_cp ⟨#[89]⟩
  have c4 : CP (TT ()) 10 [.sl none 6 [.agg [.raw (.string ⟨#[88]⟩), .raw (.int .i64 1), .raw (.int .i64 0), .raw (.string ⟨#[]⟩), .sl none 1 [], .sl none 5 []]], .agg [.raw (.int .i64 6), .raw (.int .i64 0), .raw (.string ⟨#[88]⟩), .sl none 1 [], .sl none 5 []]] (· = .tup [.agg [.raw (.int .i64 1), .raw (.int .i64 0), .raw (.string ⟨#[]⟩), .sl none 1 [], .sl none 5 []], .raw (.bool true)]) := by
    have c := pup_cp m9 (by decide) x9
    rwa [show pairD2 (upB9 m9 x9) = .tup [.agg [.raw (.int .i64 1), .raw (.int .i64 0), .raw (.string ⟨#[]⟩), .sl none 1 [], .sl none 5 []], .raw (.bool true)] by kernel_rfl] at c
  have c5 : CP (TT ()) 12 [.sl none 6 [.agg [.raw (.string ⟨#[88]⟩), .raw (.int .i64 1), .raw (.int .i64 0), .raw (.string ⟨#[]⟩), .sl none 1 [], .sl none 5 []]]] (· = .raw (.bool true)) := by
    have c := pright9m_cp m9 (by decide) m9_ok
    rwa [show rightP9 m9 = true by kernel_rfl] at c
  have c6 : CP (TT ()) 16 [.sl none 6 [.agg [.raw (.string ⟨#[88]⟩), .raw (.int .i64 1), .raw (.int .i64 0), .raw (.string ⟨#[]⟩), .sl none 1 [], .sl none 5 []]]] (· = .sl none 1 [.raw (.string ⟨#[88]⟩)]) := pnames_cp m9 (by decide)
  have c7 : CP (TT ()) 18 [.sl none 6 [.agg [.raw (.string ⟨#[88]⟩), .raw (.int .i64 1), .raw (.int .i64 0), .raw (.string ⟨#[]⟩), .sl none 1 [], .sl none 5 []]], .agg [.raw (.int .i64 6), .raw (.int .i64 0), .raw (.string ⟨#[88]⟩), .sl none 1 [], .sl none 5 []]] (· = .raw (.bool true)) := by
    have c := pin_cp m9 (by decide) x9 x9_ok (by decide)
    rwa [show inB9 m9 x9 = true by kernel_rfl] at c
  have c8 : CP (TT ()) 18 [.sl none 6 [.agg [.raw (.string ⟨#[88]⟩), .raw (.int .i64 1), .raw (.int .i64 0), .raw (.string ⟨#[]⟩), .sl none 1 [], .sl none 5 []]], .agg [.raw (.int .i64 6), .raw (.int .i64 0), .raw (.string ⟨#[89]⟩), .sl none 1 [], .sl none 5 []]] (· = .raw (.bool false)) := by
    have c := pin_cp m9 (by decide) y9 y9_ok (by decide)
    rwa [show inB9 m9 y9 = false by kernel_rfl] at c
  refine c4_run fun Q hQ => ?_
  cbv
  (repeat'((first|(apply zS;kernel_rfl)|(apply zD;decide +kernel)|(apply zE;decide +kernel)|(apply zF;decide +kernel)|(apply zL;decide +kernel)|(apply zM;decide +kernel)|(apply zN;intros)|(apply zO;intros)|(apply zT;omega)|(apply zU;omega)|(apply zP;omega;intros)|(apply zQ;omega;intros)|apply zR);cbv))
  refine .one c1 rfl rfl ?_
  cbv
  (repeat'((first|(apply zS;kernel_rfl)|(apply zD;decide +kernel)|(apply zE;decide +kernel)|(apply zF;decide +kernel)|(apply zL;decide +kernel)|(apply zM;decide +kernel)|(apply zN;intros)|(apply zO;intros)|(apply zT;omega)|(apply zU;omega)|(apply zP;omega;intros)|(apply zQ;omega;intros)|apply zR);cbv))
  refine .one c2 rfl rfl ?_
  cbv
  (repeat'((first|(apply zS;kernel_rfl)|(apply zD;decide +kernel)|(apply zE;decide +kernel)|(apply zF;decide +kernel)|(apply zL;decide +kernel)|(apply zM;decide +kernel)|(apply zN;intros)|(apply zO;intros)|(apply zT;omega)|(apply zU;omega)|(apply zP;omega;intros)|(apply zQ;omega;intros)|apply zR);cbv))
  refine .one c4 rfl rfl ?_
  cbv
  (repeat'((first|(apply zS;kernel_rfl)|(apply zD;decide +kernel)|(apply zE;decide +kernel)|(apply zF;decide +kernel)|(apply zL;decide +kernel)|(apply zM;decide +kernel)|(apply zN;intros)|(apply zO;intros)|(apply zT;omega)|(apply zU;omega)|(apply zP;omega;intros)|(apply zQ;omega;intros)|apply zR);cbv))
  refine .one c5 rfl rfl ?_
  cbv
  (repeat'((first|(apply zS;kernel_rfl)|(apply zD;decide +kernel)|(apply zE;decide +kernel)|(apply zF;decide +kernel)|(apply zL;decide +kernel)|(apply zM;decide +kernel)|(apply zN;intros)|(apply zO;intros)|(apply zT;omega)|(apply zU;omega)|(apply zP;omega;intros)|(apply zQ;omega;intros)|apply zR);cbv))
  refine .one c6 rfl rfl ?_
  cbv
  (repeat'((first|(apply zS;kernel_rfl)|(apply zD;decide +kernel)|(apply zE;decide +kernel)|(apply zF;decide +kernel)|(apply zL;decide +kernel)|(apply zM;decide +kernel)|(apply zN;intros)|(apply zO;intros)|(apply zT;omega)|(apply zU;omega)|(apply zP;omega;intros)|(apply zQ;omega;intros)|apply zR);cbv))
  rename_i z hz0 hz
  obtain rfl : z = 1 := by
    simp only [List.length_cons, List.length_nil] at hz
    omega
  refine BinK.eqlT rfl ?_
  cbv
  (repeat'((first|(apply zS;kernel_rfl)|(apply zD;decide +kernel)|(apply zE;decide +kernel)|(apply zF;decide +kernel)|(apply zL;decide +kernel)|(apply zM;decide +kernel)|(apply zN;intros)|(apply zO;intros)|(apply zT;omega)|(apply zU;omega)|(apply zP;omega;intros)|(apply zQ;omega;intros)|apply zR);cbv))
  refine .one c2 rfl rfl ?_
  cbv
  (repeat'((first|(apply zS;kernel_rfl)|(apply zD;decide +kernel)|(apply zE;decide +kernel)|(apply zF;decide +kernel)|(apply zL;decide +kernel)|(apply zM;decide +kernel)|(apply zN;intros)|(apply zO;intros)|(apply zT;omega)|(apply zU;omega)|(apply zP;omega;intros)|(apply zQ;omega;intros)|apply zR);cbv))
  refine .one c7 rfl rfl ?_
  cbv
  (repeat'((first|(apply zS;kernel_rfl)|(apply zD;decide +kernel)|(apply zE;decide +kernel)|(apply zF;decide +kernel)|(apply zL;decide +kernel)|(apply zM;decide +kernel)|(apply zN;intros)|(apply zO;intros)|(apply zT;omega)|(apply zU;omega)|(apply zP;omega;intros)|(apply zQ;omega;intros)|apply zR);cbv))
  refine .one c3 rfl rfl ?_
  cbv
  (repeat'((first|(apply zS;kernel_rfl)|(apply zD;decide +kernel)|(apply zE;decide +kernel)|(apply zF;decide +kernel)|(apply zL;decide +kernel)|(apply zM;decide +kernel)|(apply zN;intros)|(apply zO;intros)|(apply zT;omega)|(apply zU;omega)|(apply zP;omega;intros)|(apply zQ;omega;intros)|apply zR);cbv))
  refine .one c8 rfl rfl ?_
  cbv
  (repeat'((first|(apply zS;kernel_rfl)|(apply zD;decide +kernel)|(apply zE;decide +kernel)|(apply zF;decide +kernel)|(apply zL;decide +kernel)|(apply zM;decide +kernel)|(apply zN;intros)|(apply zO;intros)|(apply zT;omega)|(apply zU;omega)|(apply zP;omega;intros)|(apply zQ;omega;intros)|apply zR);cbv))
  exact ⟨hQ _⟩
theorem boundsP : BoundsP where
  awake := awake9_cp
  right := fun m h => rightP9_eq m ▸ pright9m_cp m (by have := h.len; omega) h.ok
  names := fun m h => pnames_cp m (by have := h.len; omega)
  find := fun m s h _ => pfind_cp m (by have := h.len; omega) s
  up := fun m t h _ _ => pup_cp m (by have := h.len; omega) t
  holds := fun m t h ho hn => pin_cp m (by have := h.len; omega) t ho (by omega)
/-! ### Both laws, as calls -/
theorem tell9_law (m : List Bd) (s : ByteArray) (t : Ty5) (hm : okB m) (hs : s.size ≤ 1048576) (ht : okT t) (hzm : ∀ p ∈ m, p.1.size ≤ 1048576 ∧ szT p.2 ≤ 1048576) (hzt : szT t ≤ 1048576) :
    CP (TT ()) 3 [.sl none 6 (bnsD m), .raw (.string s), tyD t] (· = .raw (.bool true)) :=
  c4_run fun Q hQ => tell_run boundsP m s t hm (Nat.le_trans hs (by decide)) ht hzt hzm Q hQ
theorem closed9_law (m : List Bd) (t : Ty5) (hm : okB m) (ht : okT t) (hzm : ∀ p ∈ m, p.1.size ≤ 1048576 ∧ szT p.2 ≤ 1048576) (hzt : szT t ≤ 1048576) :
    CP (TT ()) 4 [.sl none 6 (bnsD m), tyD t] (· = .raw (.bool true)) := by
  obtain ⟨k, n, nm, ls, ks⟩ := t
  exact c4_run fun Q hQ => closed_run boundsP m k n nm ls ks hm ht hzt hzm Q hQ
end Go.Proofs.Ytpnfbmhnmhahnaa
