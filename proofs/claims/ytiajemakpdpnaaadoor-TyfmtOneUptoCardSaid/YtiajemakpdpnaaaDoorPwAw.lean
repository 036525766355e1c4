/- limbecklaw05.awake. -/
import Derived.Test.YtiajemakpdpnaaaDoorPwBi
import Derived.Test.YtiajemakpdpnaaaDoorPwRt
namespace Go.Proofs.YtiajemakpdpnaaaDoor
open Go.RowKit Pv
theorem CP.args {k : FuncId} {ds es : List D} {Q : D → Prop} (c : CP (TT ()) k es Q) (hw : ∀ C w vs, RdL C w ds vs → RdL C w es vs) : CP (TT ()) k ds Q :=
  ⟨c.1, fun S w args hS r => c.2 S w args hS (hw _ _ _ r)⟩
theorem cp_runP {k : FuncId} {ds : List D} {d0 : D} (h : ∀ Q : D → H → Prop, (∀ d h', pureD d = some d0 → Q d h') → wfun TT k ds [] Q) : CP (TT ()) k ds (· = d0) :=
  (wfun_ok (T := TT) (by kernel_rfl) (h (fun d _ => pureD d = some d0) fun _ _ e => e)).cp fun d h' h => ⟨d0, h, rfl⟩
def zD (k : Int) : D := .agg [.raw (.int .i64 k), .raw (.int .i64 0), .raw (.string ⟨#[]⟩), .raw (.slice none 0 0), .raw (.slice none 0 0)]
def fD (a b : D) : D := .agg [.raw (.int .i64 7), .raw (.int .i64 0), .raw (.string ⟨#[]⟩), .raw (.slice none 0 0), .sl none 5 [a, b]]
theorem dyn_cp : CP (TT ()) 17 [] (· = zD 5) := by
  refine cp_runP fun Q hQ => ?_
  unfold zD at hQ
  cbv
  (repeat' (first | (refine Pv.StatK.go (by kernel_rfl) (by kernel_rfl) ?_; cbv) | (refine Pv.DrawK.go 0 (by decide +kernel) ?_; cbv) | (refine Pv.DrawK.go 1 (by decide +kernel) ?_; cbv) | (refine Pv.DrawK.go 2 (by decide +kernel) ?_; cbv) | (refine Pv.LineK.go 0 (by decide +kernel) (by kernel_rfl) ?_; cbv) | (refine Pv.LineK.go 1 (by decide +kernel) (by kernel_rfl) ?_; cbv) | (refine Pv.LenK.intro ?_; intro _ _ _; cbv) | (refine Pv.LenNK.intro ?_; intro _ _ _; cbv) | (refine Pv.BinK.lssT (by omega) ?_; cbv) | (refine Pv.BinK.lssF (by omega) ?_; cbv) | (refine Pv.BinK.leqT (by omega) ?_; cbv) | (refine Pv.BinK.leqF (by omega) ?_; cbv) | (refine Pv.BinK.gtrT (by omega) ?_; cbv) | (refine Pv.BinK.gtrF (by omega) ?_; cbv) | (refine Pv.BinK.geqT (by omega) ?_; cbv) | (refine Pv.BinK.geqF (by omega) ?_; cbv) | (refine Pv.BinK.eqlT (by omega) ?_; cbv) | (refine Pv.BinK.eqlF (by omega) ?_; cbv) | (refine Pv.BinK.neqT (by omega) ?_; cbv) | (refine Pv.BinK.neqF (by omega) ?_; cbv) | (refine Pv.BinK.add (by omega) ?_; intro _ _; cbv) | (refine Pv.BinK.sub (by omega) ?_; intro _ _; cbv)))
  exact ⟨hQ _ _ rfl⟩
theorem funII_cp : CP (TT ()) 16 [zD 1, zD 1] (· = fD (zD 1) (zD 1)) := by
  refine cp_runP fun Q hQ => ?_
  unfold fD zD at hQ
  cbv
  (repeat' (first | (refine Pv.StatK.go (by kernel_rfl) (by kernel_rfl) ?_; cbv) | (refine Pv.DrawK.go 0 (by decide +kernel) ?_; cbv) | (refine Pv.DrawK.go 1 (by decide +kernel) ?_; cbv) | (refine Pv.DrawK.go 2 (by decide +kernel) ?_; cbv) | (refine Pv.LineK.go 0 (by decide +kernel) (by kernel_rfl) ?_; cbv) | (refine Pv.LineK.go 1 (by decide +kernel) (by kernel_rfl) ?_; cbv) | (refine Pv.LenK.intro ?_; intro _ _ _; cbv) | (refine Pv.LenNK.intro ?_; intro _ _ _; cbv) | (refine Pv.BinK.lssT (by omega) ?_; cbv) | (refine Pv.BinK.lssF (by omega) ?_; cbv) | (refine Pv.BinK.leqT (by omega) ?_; cbv) | (refine Pv.BinK.leqF (by omega) ?_; cbv) | (refine Pv.BinK.gtrT (by omega) ?_; cbv) | (refine Pv.BinK.gtrF (by omega) ?_; cbv) | (refine Pv.BinK.geqT (by omega) ?_; cbv) | (refine Pv.BinK.geqF (by omega) ?_; cbv) | (refine Pv.BinK.eqlT (by omega) ?_; cbv) | (refine Pv.BinK.eqlF (by omega) ?_; cbv) | (refine Pv.BinK.neqT (by omega) ?_; cbv) | (refine Pv.BinK.neqF (by omega) ?_; cbv) | (refine Pv.BinK.add (by omega) ?_; intro _ _; cbv) | (refine Pv.BinK.sub (by omega) ?_; intro _ _; cbv)))
  exact ⟨hQ _ _ rfl⟩
theorem funFD_cp : CP (TT ()) 16 [fD (zD 1) (zD 1), zD 5] (· = fD (fD (zD 1) (zD 1)) (zD 5)) := by
  refine cp_runP fun Q hQ => ?_
  unfold fD zD at hQ
  cbv
  (repeat' (first | (refine Pv.StatK.go (by kernel_rfl) (by kernel_rfl) ?_; cbv) | (refine Pv.DrawK.go 0 (by decide +kernel) ?_; cbv) | (refine Pv.DrawK.go 1 (by decide +kernel) ?_; cbv) | (refine Pv.DrawK.go 2 (by decide +kernel) ?_; cbv) | (refine Pv.LineK.go 0 (by decide +kernel) (by kernel_rfl) ?_; cbv) | (refine Pv.LineK.go 1 (by decide +kernel) (by kernel_rfl) ?_; cbv) | (refine Pv.LenK.intro ?_; intro _ _ _; cbv) | (refine Pv.LenNK.intro ?_; intro _ _ _; cbv) | (refine Pv.BinK.lssT (by omega) ?_; cbv) | (refine Pv.BinK.lssF (by omega) ?_; cbv) | (refine Pv.BinK.leqT (by omega) ?_; cbv) | (refine Pv.BinK.leqF (by omega) ?_; cbv) | (refine Pv.BinK.gtrT (by omega) ?_; cbv) | (refine Pv.BinK.gtrF (by omega) ?_; cbv) | (refine Pv.BinK.geqT (by omega) ?_; cbv) | (refine Pv.BinK.geqF (by omega) ?_; cbv) | (refine Pv.BinK.eqlT (by omega) ?_; cbv) | (refine Pv.BinK.eqlF (by omega) ?_; cbv) | (refine Pv.BinK.neqT (by omega) ?_; cbv) | (refine Pv.BinK.neqF (by omega) ?_; cbv) | (refine Pv.BinK.add (by omega) ?_; intro _ _; cbv) | (refine Pv.BinK.sub (by omega) ?_; intro _ _; cbv)))
  exact ⟨hQ _ _ rfl⟩
theorem rdE_wk {C : Cx} {w : World} {sz : Nat} : ∀ (ds es : List D) (f : Nat → Option Value), ds.length = es.length → (∀ (i : Nat) (d e : D), ds[i]? = some d → es[i]? = some e → Wk d e) → Pv.RdE C w sz ds f → Pv.RdE C w sz es f
  | [], [], _, _, _, _ => trivial
  | d :: ds, e :: es, f, hl, h, ⟨⟨u, r, k⟩, r2⟩ => ⟨⟨u, h 0 d e rfl rfl C w u r, k⟩, rdE_wk ds es _ (Nat.succ.inj hl) (fun i d' e' h1 h2 => h (i + 1) d' e' h1 h2) r2⟩
theorem wk_sl {tag : Option Nat} {sz : Nat} {ds es : List D} (hl : ds.length = es.length) (h : ∀ (i : Nat) (d e : D), ds[i]? = some d → es[i]? = some e → Wk d e) : Wk (.sl tag sz ds) (.sl tag sz es) := fun C w v ⟨h1, h2, h3⟩ => by
  refine ⟨hl ▸ h1, fun hp => ?_, fun id e => hl ▸ h3 id e⟩
  obtain ⟨b, off, cap, e, hs, hr⟩ := h2 (by omega)
  exact ⟨b, off, cap, hl ▸ e, hl ▸ hs, rdE_wk ds es _ hl h hr⟩
theorem no_size : (⟨#[]⟩ : ByteArray).size ≤ maxLen := Nat.zero_le _
def i5 (k : Int) : Ty5 := .mk k 0 ⟨#[]⟩ [] []
def f5 (a b : Ty5) : Ty5 := .mk 7 0 ⟨#[]⟩ [] [a, b]
theorem wk_i (k : Int) : Wk (zD k) (tyD (i5 k)) := .agg (.cons (.refl _) (.cons (.refl _) (.cons (.refl _) (.cons (nil_any 1) (.cons (nil_any 5) .nil)))))
theorem wk_f {x y : D} {a b : Ty5} (ha : Wk x (tyD a)) (hb : Wk y (tyD b)) : Wk (fD x y) (tyD (f5 a b)) :=
  .agg (.cons (.refl _) (.cons (.refl _) (.cons (.refl _) (.cons (nil_any 1) (.cons (wk_sl rfl fun i d e h1 h2 => by
    match i, h1, h2 with
    | 0, h1, h2 => cases h1; cases h2; exact ha
    | 1, h1, h2 => cases h1; cases h2; exact hb
    | n + 2, h1, h2 => simp at h1) .nil)))))
theorem aw_text : shT (f5 (f5 (i5 1) (i5 1)) (i5 5)) = [40, 73, 110, 116, 32, 45, 62, 32, 73, 110, 116, 41, 32, 45, 62, 32, 63] := by kernel_rfl
theorem aw_binds : jX (bE [(⟨#[120]⟩, i5 1)] ⟨#[58, 32]⟩) 1 = [120, 58, 32, 73, 110, 116] := by kernel_rfl
theorem aw_show : CP (TT ()) 8 [fD (fD (zD 1) (zD 1)) (zD 5)] (· = .raw (.string (txt [40, 73, 110, 116, 32, 45, 62, 32, 73, 110, 116, 41, 32, 45, 62, 32, 63]))) := by
  have c := showp_cp (f5 (f5 (i5 1) (i5 1)) (i5 5)) (by simp [f5, i5, okT, okT.okL, no_size]) (by rw [aw_text]; decide)
  rw [aw_text] at c
  exact CP.args c (WkL.cons (wk_f (wk_f (wk_i 1) (wk_i 1)) (wk_i 5)) .nil)
theorem aw_bindsp : CP (TT ()) 12 [.sl none 6 [.agg [.raw (.string ⟨#[120]⟩), .raw (.int .i64 1), .raw (.int .i64 0), .raw (.string ⟨#[]⟩), .raw (.slice none 0 0), .raw (.slice none 0 0)]], .raw (.string ⟨#[58, 32]⟩)] (· = .raw (.string (txt [120, 58, 32, 73, 110, 116]))) := by
  have c := bindsp_cp [(⟨#[120]⟩, i5 1)] ⟨#[58, 32]⟩ (by simp [i5, okT, okT.okL, no_size]) (by decide) (by show (jX _ 1).length ≤ _; rw [aw_binds]; decide)
  rw [show ([(⟨#[120]⟩, i5 1)] : List (ByteArray × Ty5)).length = 1 from rfl, aw_binds] at c
  refine CP.args c (WkL.cons (wk_sl rfl fun i d e h1 h2 => ?_) (WkL.refl _))
  match i, h1, h2 with
  | 0, h1, h2 =>
    cases h1; cases h2
    exact .agg (.cons (.refl _) (.cons (.refl _) (.cons (.refl _) (.cons (.refl _) (.cons (nil_any 1) (.cons (nil_any 5) .nil))))))
  | n + 1, h1, h2 => simp at h1
set_option maxRecDepth 20000 in
theorem awake_cp : CP (TT ()) 7 [] (· = .raw (.bool true)) := by
  have c1 := funII_cp
  have c2 := dyn_cp
  have c3 := funFD_cp
  have c4 := aw_show
  have c5 := aw_bindsp
  unfold fD zD at c1 c3 c4
  unfold zD at c2
  refine cp_runP fun Q hQ => ?_
  have hQ : ∀ h', Q (.raw (.bool true)) h' := fun h' => hQ _ _ rfl
  generalize hz1 : txt [40, 73, 110, 116, 32, 45, 62, 32, 73, 110, 116, 41, 32, 45, 62, 32, 63] = z1 at c4
  generalize hz2 : txt [120, 58, 32, 73, 110, 116] = z2 at c5
  cbv
  (repeat' (first | (refine Pv.StatK.go (by kernel_rfl) (by kernel_rfl) ?_; cbv) | (refine Pv.DrawK.go 0 (by decide +kernel) ?_; cbv) | (refine Pv.DrawK.go 1 (by decide +kernel) ?_; cbv) | (refine Pv.DrawK.go 2 (by decide +kernel) ?_; cbv) | (refine Pv.LineK.go 0 (by decide +kernel) (by kernel_rfl) ?_; cbv) | (refine Pv.LineK.go 1 (by decide +kernel) (by kernel_rfl) ?_; cbv) | (refine Pv.LenK.intro ?_; intro _ _ _; cbv) | (refine Pv.LenNK.intro ?_; intro _ _ _; cbv) | (refine Pv.BinK.lssT (by omega) ?_; cbv) | (refine Pv.BinK.lssF (by omega) ?_; cbv) | (refine Pv.BinK.leqT (by omega) ?_; cbv) | (refine Pv.BinK.leqF (by omega) ?_; cbv) | (refine Pv.BinK.gtrT (by omega) ?_; cbv) | (refine Pv.BinK.gtrF (by omega) ?_; cbv) | (refine Pv.BinK.geqT (by omega) ?_; cbv) | (refine Pv.BinK.geqF (by omega) ?_; cbv) | (refine Pv.BinK.eqlT (by omega) ?_; cbv) | (refine Pv.BinK.eqlF (by omega) ?_; cbv) | (refine Pv.BinK.neqT (by omega) ?_; cbv) | (refine Pv.BinK.neqF (by omega) ?_; cbv) | (refine Pv.BinK.add (by omega) ?_; intro _ _; cbv) | (refine Pv.BinK.sub (by omega) ?_; intro _ _; cbv)))
  refine CallK.one c1 rfl rfl ?_
  cbv
  (repeat' (first | (refine Pv.StatK.go (by kernel_rfl) (by kernel_rfl) ?_; cbv) | (refine Pv.DrawK.go 0 (by decide +kernel) ?_; cbv) | (refine Pv.DrawK.go 1 (by decide +kernel) ?_; cbv) | (refine Pv.DrawK.go 2 (by decide +kernel) ?_; cbv) | (refine Pv.LineK.go 0 (by decide +kernel) (by kernel_rfl) ?_; cbv) | (refine Pv.LineK.go 1 (by decide +kernel) (by kernel_rfl) ?_; cbv) | (refine Pv.LenK.intro ?_; intro _ _ _; cbv) | (refine Pv.LenNK.intro ?_; intro _ _ _; cbv) | (refine Pv.BinK.lssT (by omega) ?_; cbv) | (refine Pv.BinK.lssF (by omega) ?_; cbv) | (refine Pv.BinK.leqT (by omega) ?_; cbv) | (refine Pv.BinK.leqF (by omega) ?_; cbv) | (refine Pv.BinK.gtrT (by omega) ?_; cbv) | (refine Pv.BinK.gtrF (by omega) ?_; cbv) | (refine Pv.BinK.geqT (by omega) ?_; cbv) | (refine Pv.BinK.geqF (by omega) ?_; cbv) | (refine Pv.BinK.eqlT (by omega) ?_; cbv) | (refine Pv.BinK.eqlF (by omega) ?_; cbv) | (refine Pv.BinK.neqT (by omega) ?_; cbv) | (refine Pv.BinK.neqF (by omega) ?_; cbv) | (refine Pv.BinK.add (by omega) ?_; intro _ _; cbv) | (refine Pv.BinK.sub (by omega) ?_; intro _ _; cbv)))
  refine CallK.one c2 rfl rfl ?_
  cbv
  (repeat' (first | (refine Pv.StatK.go (by kernel_rfl) (by kernel_rfl) ?_; cbv) | (refine Pv.DrawK.go 0 (by decide +kernel) ?_; cbv) | (refine Pv.DrawK.go 1 (by decide +kernel) ?_; cbv) | (refine Pv.DrawK.go 2 (by decide +kernel) ?_; cbv) | (refine Pv.LineK.go 0 (by decide +kernel) (by kernel_rfl) ?_; cbv) | (refine Pv.LineK.go 1 (by decide +kernel) (by kernel_rfl) ?_; cbv) | (refine Pv.LenK.intro ?_; intro _ _ _; cbv) | (refine Pv.LenNK.intro ?_; intro _ _ _; cbv) | (refine Pv.BinK.lssT (by omega) ?_; cbv) | (refine Pv.BinK.lssF (by omega) ?_; cbv) | (refine Pv.BinK.leqT (by omega) ?_; cbv) | (refine Pv.BinK.leqF (by omega) ?_; cbv) | (refine Pv.BinK.gtrT (by omega) ?_; cbv) | (refine Pv.BinK.gtrF (by omega) ?_; cbv) | (refine Pv.BinK.geqT (by omega) ?_; cbv) | (refine Pv.BinK.geqF (by omega) ?_; cbv) | (refine Pv.BinK.eqlT (by omega) ?_; cbv) | (refine Pv.BinK.eqlF (by omega) ?_; cbv) | (refine Pv.BinK.neqT (by omega) ?_; cbv) | (refine Pv.BinK.neqF (by omega) ?_; cbv) | (refine Pv.BinK.add (by omega) ?_; intro _ _; cbv) | (refine Pv.BinK.sub (by omega) ?_; intro _ _; cbv)))
  refine CallK.one c3 rfl rfl ?_
  cbv
  (repeat' (first | (refine Pv.StatK.go (by kernel_rfl) (by kernel_rfl) ?_; cbv) | (refine Pv.DrawK.go 0 (by decide +kernel) ?_; cbv) | (refine Pv.DrawK.go 1 (by decide +kernel) ?_; cbv) | (refine Pv.DrawK.go 2 (by decide +kernel) ?_; cbv) | (refine Pv.LineK.go 0 (by decide +kernel) (by kernel_rfl) ?_; cbv) | (refine Pv.LineK.go 1 (by decide +kernel) (by kernel_rfl) ?_; cbv) | (refine Pv.LenK.intro ?_; intro _ _ _; cbv) | (refine Pv.LenNK.intro ?_; intro _ _ _; cbv) | (refine Pv.BinK.lssT (by omega) ?_; cbv) | (refine Pv.BinK.lssF (by omega) ?_; cbv) | (refine Pv.BinK.leqT (by omega) ?_; cbv) | (refine Pv.BinK.leqF (by omega) ?_; cbv) | (refine Pv.BinK.gtrT (by omega) ?_; cbv) | (refine Pv.BinK.gtrF (by omega) ?_; cbv) | (refine Pv.BinK.geqT (by omega) ?_; cbv) | (refine Pv.BinK.geqF (by omega) ?_; cbv) | (refine Pv.BinK.eqlT (by omega) ?_; cbv) | (refine Pv.BinK.eqlF (by omega) ?_; cbv) | (refine Pv.BinK.neqT (by omega) ?_; cbv) | (refine Pv.BinK.neqF (by omega) ?_; cbv) | (refine Pv.BinK.add (by omega) ?_; intro _ _; cbv) | (refine Pv.BinK.sub (by omega) ?_; intro _ _; cbv)))
  refine CallK.one c4 rfl rfl ?_
  cbv
  (repeat' (first | (refine Pv.StatK.go (by kernel_rfl) (by kernel_rfl) ?_; cbv) | (refine Pv.DrawK.go 0 (by decide +kernel) ?_; cbv) | (refine Pv.DrawK.go 1 (by decide +kernel) ?_; cbv) | (refine Pv.DrawK.go 2 (by decide +kernel) ?_; cbv) | (refine Pv.LineK.go 0 (by decide +kernel) (by kernel_rfl) ?_; cbv) | (refine Pv.LineK.go 1 (by decide +kernel) (by kernel_rfl) ?_; cbv) | (refine Pv.LenK.intro ?_; intro _ _ _; cbv) | (refine Pv.LenNK.intro ?_; intro _ _ _; cbv) | (refine Pv.BinK.lssT (by omega) ?_; cbv) | (refine Pv.BinK.lssF (by omega) ?_; cbv) | (refine Pv.BinK.leqT (by omega) ?_; cbv) | (refine Pv.BinK.leqF (by omega) ?_; cbv) | (refine Pv.BinK.gtrT (by omega) ?_; cbv) | (refine Pv.BinK.gtrF (by omega) ?_; cbv) | (refine Pv.BinK.geqT (by omega) ?_; cbv) | (refine Pv.BinK.geqF (by omega) ?_; cbv) | (refine Pv.BinK.eqlT (by omega) ?_; cbv) | (refine Pv.BinK.eqlF (by omega) ?_; cbv) | (refine Pv.BinK.neqT (by omega) ?_; cbv) | (refine Pv.BinK.neqF (by omega) ?_; cbv) | (refine Pv.BinK.add (by omega) ?_; intro _ _; cbv) | (refine Pv.BinK.sub (by omega) ?_; intro _ _; cbv)))
  refine BinK.seql ?_ ?_
  · intro _
    cbv
    (repeat' (first | (refine Pv.StatK.go (by kernel_rfl) (by kernel_rfl) ?_; cbv) | (refine Pv.DrawK.go 0 (by decide +kernel) ?_; cbv) | (refine Pv.DrawK.go 1 (by decide +kernel) ?_; cbv) | (refine Pv.DrawK.go 2 (by decide +kernel) ?_; cbv) | (refine Pv.LineK.go 0 (by decide +kernel) (by kernel_rfl) ?_; cbv) | (refine Pv.LineK.go 1 (by decide +kernel) (by kernel_rfl) ?_; cbv) | (refine Pv.LenK.intro ?_; intro _ _ _; cbv) | (refine Pv.LenNK.intro ?_; intro _ _ _; cbv) | (refine Pv.BinK.lssT (by omega) ?_; cbv) | (refine Pv.BinK.lssF (by omega) ?_; cbv) | (refine Pv.BinK.leqT (by omega) ?_; cbv) | (refine Pv.BinK.leqF (by omega) ?_; cbv) | (refine Pv.BinK.gtrT (by omega) ?_; cbv) | (refine Pv.BinK.gtrF (by omega) ?_; cbv) | (refine Pv.BinK.geqT (by omega) ?_; cbv) | (refine Pv.BinK.geqF (by omega) ?_; cbv) | (refine Pv.BinK.eqlT (by omega) ?_; cbv) | (refine Pv.BinK.eqlF (by omega) ?_; cbv) | (refine Pv.BinK.neqT (by omega) ?_; cbv) | (refine Pv.BinK.neqF (by omega) ?_; cbv) | (refine Pv.BinK.add (by omega) ?_; intro _ _; cbv) | (refine Pv.BinK.sub (by omega) ?_; intro _ _; cbv)))
    refine CallK.one c5 rfl rfl ?_
    cbv
    (repeat' (first | (refine Pv.StatK.go (by kernel_rfl) (by kernel_rfl) ?_; cbv) | (refine Pv.DrawK.go 0 (by decide +kernel) ?_; cbv) | (refine Pv.DrawK.go 1 (by decide +kernel) ?_; cbv) | (refine Pv.DrawK.go 2 (by decide +kernel) ?_; cbv) | (refine Pv.LineK.go 0 (by decide +kernel) (by kernel_rfl) ?_; cbv) | (refine Pv.LineK.go 1 (by decide +kernel) (by kernel_rfl) ?_; cbv) | (refine Pv.LenK.intro ?_; intro _ _ _; cbv) | (refine Pv.LenNK.intro ?_; intro _ _ _; cbv) | (refine Pv.BinK.lssT (by omega) ?_; cbv) | (refine Pv.BinK.lssF (by omega) ?_; cbv) | (refine Pv.BinK.leqT (by omega) ?_; cbv) | (refine Pv.BinK.leqF (by omega) ?_; cbv) | (refine Pv.BinK.gtrT (by omega) ?_; cbv) | (refine Pv.BinK.gtrF (by omega) ?_; cbv) | (refine Pv.BinK.geqT (by omega) ?_; cbv) | (refine Pv.BinK.geqF (by omega) ?_; cbv) | (refine Pv.BinK.eqlT (by omega) ?_; cbv) | (refine Pv.BinK.eqlF (by omega) ?_; cbv) | (refine Pv.BinK.neqT (by omega) ?_; cbv) | (refine Pv.BinK.neqF (by omega) ?_; cbv) | (refine Pv.BinK.add (by omega) ?_; intro _ _; cbv) | (refine Pv.BinK.sub (by omega) ?_; intro _ _; cbv)))
    refine BinK.seql ?_ ?_
    · intro _
      cbv
      (repeat' (first | (refine Pv.StatK.go (by kernel_rfl) (by kernel_rfl) ?_; cbv) | (refine Pv.DrawK.go 0 (by decide +kernel) ?_; cbv) | (refine Pv.DrawK.go 1 (by decide +kernel) ?_; cbv) | (refine Pv.DrawK.go 2 (by decide +kernel) ?_; cbv) | (refine Pv.LineK.go 0 (by decide +kernel) (by kernel_rfl) ?_; cbv) | (refine Pv.LineK.go 1 (by decide +kernel) (by kernel_rfl) ?_; cbv) | (refine Pv.LenK.intro ?_; intro _ _ _; cbv) | (refine Pv.LenNK.intro ?_; intro _ _ _; cbv) | (refine Pv.BinK.lssT (by omega) ?_; cbv) | (refine Pv.BinK.lssF (by omega) ?_; cbv) | (refine Pv.BinK.leqT (by omega) ?_; cbv) | (refine Pv.BinK.leqF (by omega) ?_; cbv) | (refine Pv.BinK.gtrT (by omega) ?_; cbv) | (refine Pv.BinK.gtrF (by omega) ?_; cbv) | (refine Pv.BinK.geqT (by omega) ?_; cbv) | (refine Pv.BinK.geqF (by omega) ?_; cbv) | (refine Pv.BinK.eqlT (by omega) ?_; cbv) | (refine Pv.BinK.eqlF (by omega) ?_; cbv) | (refine Pv.BinK.neqT (by omega) ?_; cbv) | (refine Pv.BinK.neqF (by omega) ?_; cbv) | (refine Pv.BinK.add (by omega) ?_; intro _ _; cbv) | (refine Pv.BinK.sub (by omega) ?_; intro _ _; cbv)))
      exact ⟨hQ _⟩
    · intro h
      exact absurd hz2.symm h
  · intro h
    exact absurd hz1.symm h
end Go.Proofs.YtiajemakpdpnaaaDoor
