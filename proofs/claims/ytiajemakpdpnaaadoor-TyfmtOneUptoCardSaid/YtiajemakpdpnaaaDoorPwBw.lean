/- The builder's WriteString, the collector and its two closures, by the open run. -/
import Derived.Test.YtiajemakpdpnaaaDoorPwBl
namespace Go.Proofs.YtiajemakpdpnaaaDoor
open Go.RowKit Pv
theorem el_bytes : ElemIs (TT ()) 52 5 1 1 := by unfold ElemIs; kernel_rfl
theorem len_str {ty : TypeId} {cs : Array Bool} {s : ByteArray} {z : Int} {K : D → Prop} (hz : (s.size : Int) = z) (hk : K (.raw (.int .i64 z))) : BuiltK TT .len #[9] ty cs [.string s] K := by
  subst hz
  exact ⟨.int .i64 s.size, by kernel_rfl, hk⟩
theorem bld_app {S : List UInt8} {LS L : List D} {n n' : Nat} {s : ByteArray} (hLS : bytesD S = LS) (hn : S.length = n) (hL : L = LS ++ (s.data.toList.map fun b => D.raw (.int .u8 b.toNat))) (hn' : n' = L.length) : [Cell.box 54 [.bx 0 0, .sl (some 1) 1 L], .log 5 1 n'] = Bld true (S ++ s.data.toList) := by
  subst hLS hn' hL
  simp [Bld, headD, bytesD]
set_option maxRecDepth 20000 in
set_option maxHeartbeats 4000000 in
theorem bw_run (u : Bool) (S : List UInt8) (s : ByteArray) (hr : S.length + s.size ≤ 140737488355328) (Q : D → H → Prop) (hQ : ∀ h', h' = Bld true (S ++ s.data.toList) → Q (.tup [.raw (.int .i64 s.size), .raw .nilIface]) h') : wfun TT 29 [.bx 0 0, .raw (.string s)] (Bld u S) Q := by
  have hcc : CW (TT ()) 37 [.bx 0 0] (Bld u S) fun d h' => d = .tup [] ∧ h' = [.box 54 [.bx 0 0, .sl (some 1) 1 (bytesD S)], .log 5 1 S.length] := cc_cw u S
  have hap : ∀ {LS L : List D} {n n' : Nat}, bytesD S = LS → S.length = n → L = LS ++ (s.data.toList.map fun b => D.raw (.int .u8 b.toNat)) → n' = L.length → Q (.tup [.raw (.int .i64 s.size), .raw .nilIface]) [Cell.box 54 [.bx 0 0, .sl (some 1) 1 L], .log 5 1 n'] := fun h1 h2 h3 h4 => hQ _ (bld_app h1 h2 h3 h4)
  clear hQ
  unfold Bld at hcc ⊢
  have hl := bytesD_len S
  generalize headD u = p at hcc ⊢
  generalize hLS : bytesD S = LS at hcc hl ⊢
  generalize hn : S.length = n at hcc hl hr ⊢
  cbv
  (repeat' (first | (refine Pv.StatK.go (by kernel_rfl) (by kernel_rfl) ?_; cbv) | (refine Pv.DrawK.go 0 (by decide +kernel) ?_; cbv) | (refine Pv.DrawK.go 1 (by decide +kernel) ?_; cbv) | (refine Pv.DrawK.go 2 (by decide +kernel) ?_; cbv) | (refine Pv.LineK.go 0 (by decide +kernel) (by kernel_rfl) ?_; cbv) | (refine Pv.LineK.go 1 (by decide +kernel) (by kernel_rfl) ?_; cbv) | (refine Pv.LenK.intro ?_; intro _ _ _; cbv) | (refine Pv.LenNK.intro ?_; intro _ _ _; cbv) | (refine Pv.BinK.lssT (by omega) ?_; cbv) | (refine Pv.BinK.lssF (by omega) ?_; cbv) | (refine Pv.BinK.leqT (by omega) ?_; cbv) | (refine Pv.BinK.leqF (by omega) ?_; cbv) | (refine Pv.BinK.gtrT (by omega) ?_; cbv) | (refine Pv.BinK.gtrF (by omega) ?_; cbv) | (refine Pv.BinK.geqT (by omega) ?_; cbv) | (refine Pv.BinK.geqF (by omega) ?_; cbv) | (refine Pv.BinK.eqlT (by omega) ?_; cbv) | (refine Pv.BinK.eqlF (by omega) ?_; cbv) | (refine Pv.BinK.neqT (by omega) ?_; cbv) | (refine Pv.BinK.neqF (by omega) ?_; cbv) | (refine Pv.BinK.add (by omega) ?_; intro _ _; cbv) | (refine Pv.BinK.sub (by omega) ?_; intro _ _; cbv)))
  refine CallK.mut hcc ?_
  rintro d h' ⟨rfl, rfl⟩
  cbv
  (repeat' (first | (refine Pv.StatK.go (by kernel_rfl) (by kernel_rfl) ?_; cbv) | (refine Pv.DrawK.go 0 (by decide +kernel) ?_; cbv) | (refine Pv.DrawK.go 1 (by decide +kernel) ?_; cbv) | (refine Pv.DrawK.go 2 (by decide +kernel) ?_; cbv) | (refine Pv.LineK.go 0 (by decide +kernel) (by kernel_rfl) ?_; cbv) | (refine Pv.LineK.go 1 (by decide +kernel) (by kernel_rfl) ?_; cbv) | (refine Pv.LenK.intro ?_; intro _ _ _; cbv) | (refine Pv.LenNK.intro ?_; intro _ _ _; cbv) | (refine Pv.BinK.lssT (by omega) ?_; cbv) | (refine Pv.BinK.lssF (by omega) ?_; cbv) | (refine Pv.BinK.leqT (by omega) ?_; cbv) | (refine Pv.BinK.leqF (by omega) ?_; cbv) | (refine Pv.BinK.gtrT (by omega) ?_; cbv) | (refine Pv.BinK.gtrF (by omega) ?_; cbv) | (refine Pv.BinK.geqT (by omega) ?_; cbv) | (refine Pv.BinK.geqF (by omega) ?_; cbv) | (refine Pv.BinK.eqlT (by omega) ?_; cbv) | (refine Pv.BinK.eqlF (by omega) ?_; cbv) | (refine Pv.BinK.neqT (by omega) ?_; cbv) | (refine Pv.BinK.neqF (by omega) ?_; cbv) | (refine Pv.BinK.add (by omega) ?_; intro _ _; cbv) | (refine Pv.BinK.sub (by omega) ?_; intro _ _; cbv)))
  refine AppK.str el_bytes Tryd.underlying9 rfl hl.symm (by omega) fun L n' h1 h2 => ?_
  have hf := hap hLS hn h1 h2
  clear h1 h2 hap hcc hl hLS hn hr
  generalize hsz : (s.size : Int) = z at hf
  cbv
  (repeat' (first | (refine Pv.StatK.go (by kernel_rfl) (by kernel_rfl) ?_; cbv) | (refine Pv.DrawK.go 0 (by decide +kernel) ?_; cbv) | (refine Pv.DrawK.go 1 (by decide +kernel) ?_; cbv) | (refine Pv.DrawK.go 2 (by decide +kernel) ?_; cbv) | (refine Pv.LineK.go 0 (by decide +kernel) (by kernel_rfl) ?_; cbv) | (refine Pv.LineK.go 1 (by decide +kernel) (by kernel_rfl) ?_; cbv) | (refine Pv.LenK.intro ?_; intro _ _ _; cbv) | (refine Pv.LenNK.intro ?_; intro _ _ _; cbv) | (refine Pv.BinK.lssT (by omega) ?_; cbv) | (refine Pv.BinK.lssF (by omega) ?_; cbv) | (refine Pv.BinK.leqT (by omega) ?_; cbv) | (refine Pv.BinK.leqF (by omega) ?_; cbv) | (refine Pv.BinK.gtrT (by omega) ?_; cbv) | (refine Pv.BinK.gtrF (by omega) ?_; cbv) | (refine Pv.BinK.geqT (by omega) ?_; cbv) | (refine Pv.BinK.geqF (by omega) ?_; cbv) | (refine Pv.BinK.eqlT (by omega) ?_; cbv) | (refine Pv.BinK.eqlF (by omega) ?_; cbv) | (refine Pv.BinK.neqT (by omega) ?_; cbv) | (refine Pv.BinK.neqF (by omega) ?_; cbv) | (refine Pv.BinK.add (by omega) ?_; intro _ _; cbv) | (refine Pv.BinK.sub (by omega) ?_; intro _ _; cbv)))
  refine len_str hsz ?_
  cbv
  (repeat' (first | (refine Pv.StatK.go (by kernel_rfl) (by kernel_rfl) ?_; cbv) | (refine Pv.DrawK.go 0 (by decide +kernel) ?_; cbv) | (refine Pv.DrawK.go 1 (by decide +kernel) ?_; cbv) | (refine Pv.DrawK.go 2 (by decide +kernel) ?_; cbv) | (refine Pv.LineK.go 0 (by decide +kernel) (by kernel_rfl) ?_; cbv) | (refine Pv.LineK.go 1 (by decide +kernel) (by kernel_rfl) ?_; cbv) | (refine Pv.LenK.intro ?_; intro _ _ _; cbv) | (refine Pv.LenNK.intro ?_; intro _ _ _; cbv) | (refine Pv.BinK.lssT (by omega) ?_; cbv) | (refine Pv.BinK.lssF (by omega) ?_; cbv) | (refine Pv.BinK.leqT (by omega) ?_; cbv) | (refine Pv.BinK.leqF (by omega) ?_; cbv) | (refine Pv.BinK.gtrT (by omega) ?_; cbv) | (refine Pv.BinK.gtrF (by omega) ?_; cbv) | (refine Pv.BinK.geqT (by omega) ?_; cbv) | (refine Pv.BinK.geqF (by omega) ?_; cbv) | (refine Pv.BinK.eqlT (by omega) ?_; cbv) | (refine Pv.BinK.eqlF (by omega) ?_; cbv) | (refine Pv.BinK.neqT (by omega) ?_; cbv) | (refine Pv.BinK.neqF (by omega) ?_; cbv) | (refine Pv.BinK.add (by omega) ?_; intro _ _; cbv) | (refine Pv.BinK.sub (by omega) ?_; intro _ _; cbv)))
  subst hsz
  exact ⟨hf⟩
theorem bw_cw (u : Bool) (S : List UInt8) (s : ByteArray) (hr : S.length + s.size ≤ 140737488355328) : CW (TT ()) 29 [.bx 0 0, .raw (.string s)] (Bld u S) fun d h' => d = .tup [.raw (.int .i64 s.size), .raw .nilIface] ∧ h' = Bld true (S ++ s.data.toList) :=
  wfun_ok (T := TT) (by kernel_rfl) (bw_run u S s hr _ fun _ h => ⟨rfl, h⟩)
set_option maxRecDepth 20000 in
theorem add_cw (u : Bool) (S : List UInt8) (s : ByteArray) (hr : S.length + s.size ≤ 140737488355328) : CW (TT ()) 28 [.raw (.string s), .bx 0 0] (Bld u S) fun d h' => d = .tup [] ∧ h' = Bld true (S ++ s.data.toList) := by
  have c := bw_cw u S s hr
  generalize Bld u S = h at c ⊢
  generalize Bld true (S ++ s.data.toList) = h2 at c ⊢
  generalize D.tup [.raw (.int .i64 s.size), .raw .nilIface] = dd at c
  suffices hs : ∀ Q : D → H → Prop, Q (.tup []) h2 → wfun TT 28 [.raw (.string s), .bx 0 0] h Q from wfun_ok (T := TT) (by kernel_rfl) (hs _ ⟨rfl, rfl⟩)
  intro Q hQ
  cbv
  (repeat' (first | (refine Pv.StatK.go (by kernel_rfl) (by kernel_rfl) ?_; cbv) | (refine Pv.DrawK.go 0 (by decide +kernel) ?_; cbv) | (refine Pv.DrawK.go 1 (by decide +kernel) ?_; cbv) | (refine Pv.DrawK.go 2 (by decide +kernel) ?_; cbv) | (refine Pv.LineK.go 0 (by decide +kernel) (by kernel_rfl) ?_; cbv) | (refine Pv.LineK.go 1 (by decide +kernel) (by kernel_rfl) ?_; cbv) | (refine Pv.LenK.intro ?_; intro _ _ _; cbv) | (refine Pv.LenNK.intro ?_; intro _ _ _; cbv) | (refine Pv.BinK.lssT (by omega) ?_; cbv) | (refine Pv.BinK.lssF (by omega) ?_; cbv) | (refine Pv.BinK.leqT (by omega) ?_; cbv) | (refine Pv.BinK.leqF (by omega) ?_; cbv) | (refine Pv.BinK.gtrT (by omega) ?_; cbv) | (refine Pv.BinK.gtrF (by omega) ?_; cbv) | (refine Pv.BinK.geqT (by omega) ?_; cbv) | (refine Pv.BinK.geqF (by omega) ?_; cbv) | (refine Pv.BinK.eqlT (by omega) ?_; cbv) | (refine Pv.BinK.eqlF (by omega) ?_; cbv) | (refine Pv.BinK.neqT (by omega) ?_; cbv) | (refine Pv.BinK.neqF (by omega) ?_; cbv) | (refine Pv.BinK.add (by omega) ?_; intro _ _; cbv) | (refine Pv.BinK.sub (by omega) ?_; intro _ _; cbv)))
  refine CallK.mut c ?_
  rintro d h' ⟨rfl, rfl⟩
  cbv
  (repeat' (first | (refine Pv.StatK.go (by kernel_rfl) (by kernel_rfl) ?_; cbv) | (refine Pv.DrawK.go 0 (by decide +kernel) ?_; cbv) | (refine Pv.DrawK.go 1 (by decide +kernel) ?_; cbv) | (refine Pv.DrawK.go 2 (by decide +kernel) ?_; cbv) | (refine Pv.LineK.go 0 (by decide +kernel) (by kernel_rfl) ?_; cbv) | (refine Pv.LineK.go 1 (by decide +kernel) (by kernel_rfl) ?_; cbv) | (refine Pv.LenK.intro ?_; intro _ _ _; cbv) | (refine Pv.LenNK.intro ?_; intro _ _ _; cbv) | (refine Pv.BinK.lssT (by omega) ?_; cbv) | (refine Pv.BinK.lssF (by omega) ?_; cbv) | (refine Pv.BinK.leqT (by omega) ?_; cbv) | (refine Pv.BinK.leqF (by omega) ?_; cbv) | (refine Pv.BinK.gtrT (by omega) ?_; cbv) | (refine Pv.BinK.gtrF (by omega) ?_; cbv) | (refine Pv.BinK.geqT (by omega) ?_; cbv) | (refine Pv.BinK.geqF (by omega) ?_; cbv) | (refine Pv.BinK.eqlT (by omega) ?_; cbv) | (refine Pv.BinK.eqlF (by omega) ?_; cbv) | (refine Pv.BinK.neqT (by omega) ?_; cbv) | (refine Pv.BinK.neqF (by omega) ?_; cbv) | (refine Pv.BinK.add (by omega) ?_; intro _ _; cbv) | (refine Pv.BinK.sub (by omega) ?_; intro _ _; cbv)))
  exact ⟨hQ⟩
set_option maxRecDepth 20000 in
theorem text_cw (u : Bool) (S : List UInt8) : CW (TT ()) 30 [.bx 0 0] (Bld u S) fun d h' => d = .raw (.string ⟨S.toArray⟩) ∧ h' = [.dead, .dead] := by
  have c := bs_cw u S
  generalize Bld u S = h at c ⊢
  generalize D.raw (.string ⟨S.toArray⟩) = dd at c ⊢
  suffices hs : ∀ Q : D → H → Prop, Q dd [.dead, .dead] → wfun TT 30 [.bx 0 0] h Q from wfun_ok (T := TT) (by kernel_rfl) (hs _ ⟨rfl, rfl⟩)
  intro Q hQ
  cbv
  (repeat' (first | (refine Pv.StatK.go (by kernel_rfl) (by kernel_rfl) ?_; cbv) | (refine Pv.DrawK.go 0 (by decide +kernel) ?_; cbv) | (refine Pv.DrawK.go 1 (by decide +kernel) ?_; cbv) | (refine Pv.DrawK.go 2 (by decide +kernel) ?_; cbv) | (refine Pv.LineK.go 0 (by decide +kernel) (by kernel_rfl) ?_; cbv) | (refine Pv.LineK.go 1 (by decide +kernel) (by kernel_rfl) ?_; cbv) | (refine Pv.LenK.intro ?_; intro _ _ _; cbv) | (refine Pv.LenNK.intro ?_; intro _ _ _; cbv) | (refine Pv.BinK.lssT (by omega) ?_; cbv) | (refine Pv.BinK.lssF (by omega) ?_; cbv) | (refine Pv.BinK.leqT (by omega) ?_; cbv) | (refine Pv.BinK.leqF (by omega) ?_; cbv) | (refine Pv.BinK.gtrT (by omega) ?_; cbv) | (refine Pv.BinK.gtrF (by omega) ?_; cbv) | (refine Pv.BinK.geqT (by omega) ?_; cbv) | (refine Pv.BinK.geqF (by omega) ?_; cbv) | (refine Pv.BinK.eqlT (by omega) ?_; cbv) | (refine Pv.BinK.eqlF (by omega) ?_; cbv) | (refine Pv.BinK.neqT (by omega) ?_; cbv) | (refine Pv.BinK.neqF (by omega) ?_; cbv) | (refine Pv.BinK.add (by omega) ?_; intro _ _; cbv) | (refine Pv.BinK.sub (by omega) ?_; intro _ _; cbv)))
  refine CallK.mut c ?_
  rintro d h' ⟨rfl, rfl⟩
  cbv
  (repeat' (first | (refine Pv.StatK.go (by kernel_rfl) (by kernel_rfl) ?_; cbv) | (refine Pv.DrawK.go 0 (by decide +kernel) ?_; cbv) | (refine Pv.DrawK.go 1 (by decide +kernel) ?_; cbv) | (refine Pv.DrawK.go 2 (by decide +kernel) ?_; cbv) | (refine Pv.LineK.go 0 (by decide +kernel) (by kernel_rfl) ?_; cbv) | (refine Pv.LineK.go 1 (by decide +kernel) (by kernel_rfl) ?_; cbv) | (refine Pv.LenK.intro ?_; intro _ _ _; cbv) | (refine Pv.LenNK.intro ?_; intro _ _ _; cbv) | (refine Pv.BinK.lssT (by omega) ?_; cbv) | (refine Pv.BinK.lssF (by omega) ?_; cbv) | (refine Pv.BinK.leqT (by omega) ?_; cbv) | (refine Pv.BinK.leqF (by omega) ?_; cbv) | (refine Pv.BinK.gtrT (by omega) ?_; cbv) | (refine Pv.BinK.gtrF (by omega) ?_; cbv) | (refine Pv.BinK.geqT (by omega) ?_; cbv) | (refine Pv.BinK.geqF (by omega) ?_; cbv) | (refine Pv.BinK.eqlT (by omega) ?_; cbv) | (refine Pv.BinK.eqlF (by omega) ?_; cbv) | (refine Pv.BinK.neqT (by omega) ?_; cbv) | (refine Pv.BinK.neqF (by omega) ?_; cbv) | (refine Pv.BinK.add (by omega) ?_; intro _ _; cbv) | (refine Pv.BinK.sub (by omega) ?_; intro _ _; cbv)))
  exact ⟨hQ⟩
def addD : D := .fn (.func 28) [] [.bx 0 0]
def textD : D := .fn (.func 30) [] [.bx 0 0]
set_option maxRecDepth 20000 in
theorem col_run (Q : D → H → Prop) (hQ : Q (.tup [addD, textD]) [.box 54 [.raw (.pointer none), .raw (.slice none 0 0)]]) : wfun TT 18 [] [] Q := by
  unfold addD textD at hQ
  cbv
  (repeat' (first | (refine Pv.StatK.go (by kernel_rfl) (by kernel_rfl) ?_; cbv) | (refine Pv.DrawK.go 0 (by decide +kernel) ?_; cbv) | (refine Pv.DrawK.go 1 (by decide +kernel) ?_; cbv) | (refine Pv.DrawK.go 2 (by decide +kernel) ?_; cbv) | (refine Pv.LineK.go 0 (by decide +kernel) (by kernel_rfl) ?_; cbv) | (refine Pv.LineK.go 1 (by decide +kernel) (by kernel_rfl) ?_; cbv) | (refine Pv.LenK.intro ?_; intro _ _ _; cbv) | (refine Pv.LenNK.intro ?_; intro _ _ _; cbv) | (refine Pv.BinK.lssT (by omega) ?_; cbv) | (refine Pv.BinK.lssF (by omega) ?_; cbv) | (refine Pv.BinK.leqT (by omega) ?_; cbv) | (refine Pv.BinK.leqF (by omega) ?_; cbv) | (refine Pv.BinK.gtrT (by omega) ?_; cbv) | (refine Pv.BinK.gtrF (by omega) ?_; cbv) | (refine Pv.BinK.geqT (by omega) ?_; cbv) | (refine Pv.BinK.geqF (by omega) ?_; cbv) | (refine Pv.BinK.eqlT (by omega) ?_; cbv) | (refine Pv.BinK.eqlF (by omega) ?_; cbv) | (refine Pv.BinK.neqT (by omega) ?_; cbv) | (refine Pv.BinK.neqF (by omega) ?_; cbv) | (refine Pv.BinK.add (by omega) ?_; intro _ _; cbv) | (refine Pv.BinK.sub (by omega) ?_; intro _ _; cbv)))
  exact ⟨hQ⟩
theorem col_retag {k : FuncId} {ds : List D} {D0 : D} (c : CW (TT ()) k ds [] fun d h' => d = D0 ∧ h' = [.box 54 [.raw (.pointer none), .raw (.slice none 0 0)]]) : CW (TT ()) k ds [] fun d h' => d = D0 ∧ h' = Bld false [] := by
  refine ⟨c.1, fun C w args s r => (c.2 C w args s r).mono ?_⟩
  rintro e w' ⟨v, C', d, h', h1, ⟨rfl, rfl⟩, f, s', r'⟩
  obtain ⟨C2, f2, s2, hl⟩ := s'.log_nil 5 1
  refine ⟨v, C2, _, Bld false [], h1, ⟨rfl, rfl⟩, f.trans f2, s2.weak rfl (fun id t ds' e => ?_) (fun id e sz n e' => ?_), r'.mono f2.toEv⟩
  · match id, e with
    | 0, e =>
      cases e
      refine ⟨_, rfl, ?_⟩
      rintro vs ⟨v0, rest, rfl, h0, v1, rest', rfl, h1, h2⟩
      simp only [Pv.Rd] at h1
      refine ⟨_, _, rfl, h0, _, _, rfl, ⟨⟨none, 0, by rw [h1]; rfl, Nat.le_refl _, Nat.zero_le _⟩, fun h => absurd h (by simp [bytesD]), fun id e => ?_⟩, h2⟩
      cases e
      exact ⟨.slice none 0 0, hl, by simp [bytesD], fun _ => h1⟩
    | 1, e => cases e
    | n + 2, e => simp [Bld] at e
  · match id, e' with
    | 0, e => cases e
    | 1, e => cases e; rfl
    | n + 2, e => simp [Bld] at e
theorem col_cw : CW (TT ()) 18 [] [] fun d h' => d = .tup [addD, textD] ∧ h' = Bld false [] := col_retag (wfun_ok (T := TT) (by kernel_rfl) (col_run _ ⟨rfl, rfl⟩))
end Go.Proofs.YtiajemakpdpnaaaDoor
