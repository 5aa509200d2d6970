/-
 TrPart, TrInt, TrReg, TrAdd0, joined.
 Conditions: as each theorem says.
-/
import Derived.Test.YtpboencfnjmmbaaGreatDoorZTrB
import Derived.Test.YtpboencfnjmmbaaGreatDoorZLs
import Derived.Test.YtpboencfnjmmbaaGreatDoorZJRgn
set_option linter.unusedVariables false
namespace Go.Proofs.YtpboencfnjmmbaaGreatDoor
open Go.RowKit TM
def exV : TE → Value → Value → Value → Value
 | .mk op num text _ _ _, vp, vn, vb => .agg #[.int .i64 (op : Int), .int .i64 num, .string text, vp, vn, vb]
def stV : TS → Value → Value → Value → Value
 | .mk kind name _ _ _ pos, vx, vb, ve => .agg #[.int .i64 (kind : Int), .string name, vx, vb, ve, .int .i64 pos]
section
variable {B : Nat} {w w' : World}
theorem EIn.on {e : TE} {vp vn vb : Value} (h : EIn (· < B) w e vp vn vb) (hb : Below B w w') : EIn (· < B) w' e vp vn vb := EIn.kept (fun k hk => ⟨hk, hb.block k hk⟩) e h
theorem SIn.on {e : TS} {vp vn vb : Value} (h : SIn (· < B) w e vp vn vb) (hb : Below B w w') : SIn (· < B) w' e vp vn vb := SIn.kept (fun k hk => ⟨hk, hb.block k hk⟩) e h
def EsIn (B : Nat) (w : World) (v : Value) (l : List TE) : Prop := SlAt (· < B) v l.length fun g o => EsAt (· < B) w g o l
def SsIn (B : Nat) (w : World) (v : Value) (l : List TS) : Prop := SlAt (· < B) v l.length fun g o => SsAt (· < B) w g o l
theorem EsIn.on {l : List TE} {v : Value} (h : EsIn B w v l) (hb : Below B w w') : EsIn B w' v l := h.imp (fun _ h => h) fun g o hg hA => EsAt.kept (fun k hk => ⟨hk, hb.block k hk⟩) l hg hA
theorem SsIn.on {l : List TS} {v : Value} (h : SsIn B w v l) (hb : Below B w w') : SsIn B w' v l := h.imp (fun _ h => h) fun g o hg hA => SsAt.kept (fun k hk => ⟨hk, hb.block k hk⟩) l hg hA
end
theorem slNil (P : Nat → Prop) (A : Nat → Nat → Prop) : SlAt P (.slice none 0 0) 0 A := ⟨none, 0, rfl, Nat.le_refl _, by simp [maxLen], fun h => absurd h (by simp)⟩
end Go.Proofs.YtpboencfnjmmbaaGreatDoor
namespace Go.Proofs.YtpboencfnjmmbaaGreatDoor
open Go.Shelf Go.RowKit Go.Sort Go.Lib TM
end Go.Proofs.YtpboencfnjmmbaaGreatDoor
namespace Go.Proofs.YtpboencfnjmmbaaGreatDoor
open Go.RowKit TM
def cur (l : Nat → Bool) (a : Act) : Value → List (Nat × Nat × Bs) → Value
 | v, [] => v
 | v, x :: C => if l x.1 then cur l a (a.eval (.tmp x.2.1)) C else v
section
variable {B : Nat} {w0 : World} {v0 : Value} {x0 : Bs} {C C1 C2 : List (Nat × Nat × Bs)} {bi bd bc z zs : Nat} {m : Bs} {l : Nat → Bool} {a : Act} {W W' : World}
end
end Go.Proofs.YtpboencfnjmmbaaGreatDoor
namespace Go.Proofs.YtpboencfnjmmbaaGreatDoor
open Go.RowKit TM
def Six (x : Value) : Prop := ∃ (op num : Int) (text : ByteArray) (a b c : Option Addr) (n1 c1 n2 c2 n3 c3 : Nat), x = .agg #[.int .i64 op, .int .i64 num, .string text, .slice a n1 c1, .slice b n2 c2, .slice c n3 c3]
end Go.Proofs.YtpboencfnjmmbaaGreatDoor
