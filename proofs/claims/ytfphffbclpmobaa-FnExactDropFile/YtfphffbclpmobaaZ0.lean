import Derived.Test.YtfphffbclpmobaaChecked
/- No library text is joined in this seat. -/
namespace Go.Proofs.Ytfphffbclpmobaa
end Go.Proofs.Ytfphffbclpmobaa
