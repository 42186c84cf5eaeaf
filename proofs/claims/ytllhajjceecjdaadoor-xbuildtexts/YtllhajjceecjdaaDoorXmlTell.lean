/- A token more: xmlscan's tell and roomForRun. -/
import Derived.Test.YtllhajjceecjdaaDoorXmlRd
import Derived.Deep.DeepCutAuto
namespace Go.Proofs.YtllhajjceecjdaaDoor
open Go.RowKit
theorem infoTok : (Tryd.prog.info? 34).map (fun i => (i.zero, i.size, i.bytes)) = some (some (.agg #[.int .i64 0, .string ⟨#[]⟩, .slice none 0 0, .string ⟨#[]⟩]), 4, 64) := by kernel_rfl
theorem news4 {W : World} {g : Nat} {a b c d : Value} (h0 : W.cell? ⟨g, 0, none⟩ = some a) (h1 : W.cell? ⟨g, 1, none⟩ = some b) (h2 : W.cell? ⟨g, 2, none⟩ = some c) (h3 : W.cell? ⟨g, 3, none⟩ = some d) :
    ∀ j u, [a, b, c, d][j]? = some u → W.cell? ((⟨g, 0, none⟩ : Addr).add j) = some u := by
  intro j u h
  rw [Addr.add_mid, Nat.zero_add]
  match j, h with
  | 0, h => cases h; exact h0
  | 1, h => cases h; exact h1
  | 2, h => cases h; exact h2
  | 3, h => cases h; exact h3
/-- A token in a block of its own. -/
def BoxAt (w : World) (b : Nat) (t : XTok) (va : Value) : Prop := w.cell? ⟨b, 0, none⟩ = some (.int .i64 (t.kind : Nat)) ∧ w.cell? ⟨b, 1, none⟩ = some (.string (T t.name)) ∧ w.cell? ⟨b, 2, none⟩ = some va ∧ w.cell? ⟨b, 3, none⟩ = some (.string (T t.text))
theorem BoxAt.kept {w w' : World} {b : Nat} {t : XTok} {va : Value} (h : BoxAt w b t va) (hk : w'.heap[b]? = w.heap[b]?) : BoxAt w' b t va := by
  unfold BoxAt World.cell? at *
  rw [hk]; exact h
end Go.Proofs.YtllhajjceecjdaaDoor
