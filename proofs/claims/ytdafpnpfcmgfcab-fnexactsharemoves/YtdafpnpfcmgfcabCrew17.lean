/- Add and Wait, as a caller meets them. -/
import Derived.Test.YtdafpnpfcmgfcabCrew7
import Derived.Test.YtdafpnpfcmgfcabCrew8
import Derived.Test.YtdafpnpfcmgfcabJD
namespace Go.Proofs.Ytdafpnpfcmgfcab
open Go Go.Conc Go.ConcN Go.RowKit Go.Conc.Lib Go.ConcR.Gen Go.ConcN.Gen
open Go.ConcR (KK wgBlock WgAt stA smA rd wr mk Payload DC0)
theorem slots2 {f : Operand → Value} {x y : Operand} {n k : Nat} (hn : n = k + 2) : Array.map f #[x, y] ++ Array.replicate (n - (Array.map f #[x, y]).size) undef = #[f x, f y] ++ Array.replicate k undef := by
  subst hn; simp
theorem slots1 {f : Operand → Value} {x : Operand} {n k : Nat} (hn : n = k + 1) : Array.map f #[x] ++ Array.replicate (n - (Array.map f #[x]).size) undef = #[f x] ++ Array.replicate k undef := by
  subst hn; simp
section
variable {P : Program} {L : WgLink} {Wg : Nat} {b₀ : Frame} {a₀ : Act} {ops₀ : Array Oper} {i₀ : Nat} {rest₀ : List Nat} {k₀ : List Item} {cs : List Frame} {fr : Frame} {T : Array Value} {c : Code} {w : World}
theorem add_at (H : WgLib P L) (hfr : fr = (base L.add).at ⟨T, []⟩ [.code c]) {p q : Value} (hT : T = #[p, q] ++ Array.replicate 115 undef) (hp : p = .pointer (some ⟨Wg, 0, none⟩)) (hq : q = .int .i64 1) (hc : c = body_add L) (hF : WgLive L.tWg Wg w) {Next : Goroutine → World → Prop}
    (hn : ∀ w, Next (G (b₀.at (a₀.put ((ops₀[i₀]?).bind (·.dst)) (.tuple #[])) (.inRegion ops₀ rest₀ :: k₀)) cs) w) :
    Goes P true (RS L.tWg Wg) DC0 (AtWord P L.tWg Wg .disable (AtPlus P L.tWg Wg Next)) 12 (G fr (b₀.at a₀ (.inRegion ops₀ (i₀ :: rest₀) :: k₀) :: cs)) w := by
  subst hfr hT hp hq hc
  refine goes_imp (fun g w h => AtWord.mono (fun g w h => AtPlus.mono (fun g w h => ?_) h) h) _ _ _ (add_in (b₀ := b₀) (a₀ := a₀) (ops₀ := ops₀) (i₀ := i₀) (rest₀ := rest₀) (k₀ := k₀) (cs := cs) H w hF)
  subst h
  exact hn w
theorem wait_at (H : WgLib P L) (hfr : fr = (base L.wait).at ⟨T, []⟩ [.code c]) {p : Value} (hT : T = #[p] ++ Array.replicate 83 undef) (hp : p = .pointer (some ⟨Wg, 0, none⟩)) (hc : c = body_wait L) (hF : WgLive L.tWg Wg w) :
    Goes P true (RS L.tWg Wg) DC0 (AtWord P L.tWg Wg .disable (AnchWN L (fun _ => True) Wg (b₀.at a₀ (.inRegion ops₀ (i₀ :: rest₀) :: k₀)) cs)) 3 (G fr (b₀.at a₀ (.inRegion ops₀ (i₀ :: rest₀) :: k₀) :: cs)) w := by
  subst hfr hT hp hc
  exact wait_in H w hF
end
end Go.Proofs.Ytdafpnpfcmgfcab
