package tests

import (
	"math"
	"math/big"
	"testing"

	"loop.example/g01000/impl"
)

// scale is a place below all known digits: numbers times their prime to this power are integers,
// and so are products of two of them.
const scale = 130

func padic(p, valuation, unit, precision int64) impl.Padic {
	return impl.Padic{Prime: p, Valuation: valuation, Unit: unit, Precision: precision}
}

// bigPower gives p to the power of scale + place.
func bigPower(p, place int64) *big.Int {
	return new(big.Int).Exp(big.NewInt(p), big.NewInt(scale+place), nil)
}

// scaled gives one of the integers for which x stands, times p to the power of scale: the least
// one, and turns times p to the power of the end added to it.
func scaled(x impl.Padic, turns int64) *big.Int {
	n := new(big.Int).Mul(big.NewInt(x.Unit), bigPower(x.Prime, x.Valuation))
	return n.Add(n, new(big.Int).Mul(big.NewInt(turns), bigPower(x.Prime, x.Valuation+x.Precision)))
}

// known gives the number with a prime and an end that stands for n divided by p to the power of
// scale, and the code that goes with it, by dividing exact integers.
func known(p, end int64, n *big.Int) (impl.Padic, int64) {
	rest := new(big.Int).Mod(n, bigPower(p, end))
	if rest.Sign() == 0 {
		return limited(padic(p, end, 0, 0))
	}
	valuation := int64(-scale)
	for {
		quotient, digit := new(big.Int).QuoRem(rest, big.NewInt(p), new(big.Int))
		if digit.Sign() != 0 {
			return limited(padic(p, valuation, rest.Int64(), end-valuation))
		}
		rest = quotient
		valuation++
	}
}

// limited gives x, or no number and ErrLimit if its valuation is out of range.
func limited(x impl.Padic) (impl.Padic, int64) {
	if x.Valuation < -impl.MaxValuation || x.Valuation > impl.MaxValuation {
		return impl.Padic{}, impl.ErrLimit
	}
	return x, impl.ErrNone
}

// smallPadics gives all numbers by p with small valuations and precisions.
func smallPadics(p, reach, precision int64) []impl.Padic {
	list := []impl.Padic{}
	for v := -reach; v <= reach; v++ {
		list = append(list, padic(p, v, 0, 0))
		m := int64(1)
		for k := int64(1); k <= precision; k++ {
			m *= p
			for u := range m {
				if u%p != 0 {
					list = append(list, padic(p, v, u, k))
				}
			}
		}
	}
	return list
}

// widePadics gives numbers by p with small and great precisions, with units at the ends and between
// them, and with valuations at both limits and between them.
func widePadics(p int64) []impl.Padic {
	list := []impl.Padic{}
	for _, v := range []int64{-impl.MaxValuation, 1 - impl.MaxValuation, -30, 0, 2, 29, 31, impl.MaxValuation} {
		list = append(list, padic(p, v, 0, 0))
		most := len(powersOf(p))
		for i, m := range powersOf(p) {
			if i > 1 && i < most-2 && i%5 != 0 {
				continue
			}
			for _, u := range []int64{1, m / p, m/p + 1, m - m/p - 1, m - 1} {
				if u%p != 0 {
					list = append(list, padic(p, v, u, int64(i+1)))
				}
			}
		}
	}
	return list
}

// validPadics gives the lists of numbers whose pairs are tested, each list with one prime.
func validPadics() [][]impl.Padic {
	return [][]impl.Padic{
		smallPadics(2, 3, 4), smallPadics(3, 2, 3), smallPadics(5, 1, 2), smallPadics(13, 1, 1),
		widePadics(2), widePadics(3), widePadics(31), widePadics(97),
	}
}

// invalidPadics gives numbers that miss each condition alone, and some that miss several.
func invalidPadics() []impl.Padic {
	list := []impl.Padic{{}, padic(3, 0, 1, 0), padic(3, 0, -1, 0), padic(3, 0, 3, 0), padic(3, 0, 0, -1), padic(3, 0, 1, -1)}
	for _, r := range invalidRings() {
		if r.Precision != 0 {
			list = append(list, padic(r.Prime, 0, 1, r.Precision), padic(r.Prime, 0, 0, r.Precision))
		} else {
			list = append(list, padic(r.Prime, 0, 1, 0))
		}
	}
	for _, p := range []int64{0, 1, -2, -3, 4, 91, 98, 101, 999983, math.MaxInt64, math.MinInt64} {
		list = append(list, padic(p, 0, 0, 0), padic(p, 0, 1, 1), padic(p, impl.MaxValuation, 0, 0))
	}
	for _, v := range append(notValues(), impl.MaxValuation+1, -impl.MaxValuation-1) {
		list = append(list, padic(3, v, 0, 0), padic(3, v, 2, 3), padic(97, v, 1, 1))
	}
	for r, m := range validRings() {
		for _, u := range append(notValues(), 0, r.Prime%m, m-r.Prime, -1, -m, m, m+1, 2*m-1) {
			list = append(list, padic(r.Prime, 0, u, r.Precision))
		}
	}
	return list
}

func TestIsPadic(t *testing.T) {
	if impl.MaxValuation != 60 {
		t.Error("MaxValuation", impl.MaxValuation)
	}
	for _, list := range validPadics() {
		for _, x := range list {
			if !impl.IsPadic(x) {
				t.Fatal("IsPadic", x)
			}
		}
	}
	for r, m := range validRings() {
		for _, v := range []int64{-impl.MaxValuation, 0, impl.MaxValuation} {
			if !impl.IsPadic(padic(r.Prime, v, 1, r.Precision)) || !impl.IsPadic(padic(r.Prime, v, m-1, r.Precision)) || !impl.IsPadic(padic(r.Prime, v, 0, 0)) {
				t.Error("IsPadic", r, v)
			}
		}
	}
	for _, x := range invalidPadics() {
		if impl.IsPadic(x) {
			t.Error("IsPadic", x)
		}
	}
}

func TestMakePadic(t *testing.T) {
	for r, m := range validRings() {
		list := []int64{impl.MaxValue, impl.MaxValue - 1, m - 1, m, m + 1, 7*m + 1, 123456789012, 1 << 39}
		for n := int64(1); n <= 200; n++ {
			list = append(list, n)
		}
		for _, n := range list {
			for _, n := range []int64{n, -n} {
				valuation, rest := int64(0), n
				for ; rest%r.Prime == 0; rest /= r.Prime {
					valuation++
				}
				want := padic(r.Prime, valuation, (rest%m+m)%m, r.Precision)
				if got, code := impl.MakePadic(r.Prime, n, r.Precision); got != want || code != impl.ErrNone {
					t.Fatal("MakePadic", r, n, got, code)
				}
			}
		}
	}
	for _, c := range []struct {
		p, n, precision int64
		want            impl.Padic
	}{
		{3, 18, 3, padic(3, 2, 2, 3)}, {3, -1, 3, padic(3, 0, 26, 3)}, {3, 28, 3, padic(3, 0, 1, 3)}, {2, 6, 1, padic(2, 1, 1, 1)},
		{2, 1 << 39, 29, padic(2, 39, 1, 29)}, {2, -1 << 39, 29, padic(2, 39, 1<<29-1, 29)}, {97, -97, 4, padic(97, 1, 88529280, 4)},
	} {
		if got, code := impl.MakePadic(c.p, c.n, c.precision); got != c.want || code != impl.ErrNone {
			t.Error("MakePadic", c, got, code)
		}
	}
}

func TestMakePadicErrors(t *testing.T) {
	for _, r := range invalidRings() {
		for _, n := range append(notValues(), 0, 1, -6, impl.MaxValue) {
			if got, code := impl.MakePadic(r.Prime, n, r.Precision); got != (impl.Padic{}) || code != impl.ErrInvalid {
				t.Fatal("MakePadic", r, n, got, code)
			}
		}
	}
	for r := range validRings() {
		for _, n := range append(notValues(), 0) {
			if got, code := impl.MakePadic(r.Prime, n, r.Precision); got != (impl.Padic{}) || code != impl.ErrRange {
				t.Fatal("MakePadic", r, n, got, code)
			}
		}
	}
}

// TestPromise4SumsAreExact compares sums with those of exact integers, also of greater ones that
// have the same known digits.
func TestPromise4SumsAreExact(t *testing.T) {
	for _, list := range validPadics() {
		for i, x := range list {
			for j, y := range list {
				end := min(x.Valuation+x.Precision, y.Valuation+y.Precision)
				turns := int64(i*j%5) - 2
				sum := new(big.Int).Add(scaled(x, turns), scaled(y, int64(i+j)))
				want, wantCode := known(x.Prime, end, sum)
				got, code := impl.AddPadics(x, y)
				if got != want || code != wantCode {
					t.Fatal("AddPadics", x, y, got, code, want, wantCode)
				}
				if code == impl.ErrNone && !impl.IsPadic(got) {
					t.Fatal("AddPadics is not valid", x, y, got)
				}
			}
		}
	}
}

func TestPromise4EndsOfSums(t *testing.T) {
	for _, c := range []struct {
		x, y, want impl.Padic
	}{
		// The lower digits cancel, and the precision shrinks.
		{padic(3, 0, 1, 3), padic(3, 0, 2, 3), padic(3, 1, 1, 2)},
		{padic(3, 0, 1, 3), padic(3, 0, 8, 3), padic(3, 2, 1, 1)},
		{padic(3, 0, 1, 3), padic(3, 0, 26, 3), padic(3, 3, 0, 0)},
		{padic(2, 0, 1, 1), padic(2, 0, 1, 1), padic(2, 1, 0, 0)},
		{padic(2, 0, 1, 2), padic(2, 0, 1, 2), padic(2, 1, 1, 1)},
		{padic(2, 0, 1, 29), padic(2, 0, 1<<29-1, 29), padic(2, 29, 0, 0)},
		// The end is the smaller one, whichever number has the smaller valuation.
		{padic(3, 0, 26, 3), padic(3, 1, 2, 1), padic(3, 0, 5, 2)},
		{padic(3, 0, 2, 1), padic(3, 1, 26, 3), padic(3, 0, 2, 1)},
		{padic(3, -2, 2, 2), padic(3, 0, 26, 3), padic(3, -2, 2, 2)},
		{padic(3, -2, 2, 2), padic(3, -1, 26, 3), padic(3, -2, 8, 2)},
		{padic(3, -2, 2, 2), padic(3, 60, 1, 18), padic(3, -2, 2, 2)},
		{padic(97, -60, 88529280, 4), padic(97, -57, 96, 4), padic(97, -60, 88529280-912673, 4)},
		// Zeros bound the end: nothing above them is known.
		{padic(3, 0, 26, 3), padic(3, 1, 0, 0), padic(3, 0, 2, 1)},
		{padic(3, 0, 26, 3), padic(3, 3, 0, 0), padic(3, 0, 26, 3)},
		{padic(3, 0, 26, 3), padic(3, 60, 0, 0), padic(3, 0, 26, 3)},
		{padic(3, 0, 26, 3), padic(3, 0, 0, 0), padic(3, 0, 0, 0)},
		{padic(3, 0, 26, 3), padic(3, -60, 0, 0), padic(3, -60, 0, 0)},
		{padic(3, 4, 0, 0), padic(3, 5, 0, 0), padic(3, 4, 0, 0)},
		{padic(3, 60, 0, 0), padic(3, 60, 0, 0), padic(3, 60, 0, 0)},
		// The valuation of a sum reaches the limit.
		{padic(3, 57, 1, 3), padic(3, 57, 26, 3), padic(3, 60, 0, 0)},
		{padic(3, 58, 1, 3), padic(3, 58, 8, 3), padic(3, 60, 1, 1)},
		{padic(3, 60, 1, 3), padic(3, 60, 1, 3), padic(3, 60, 2, 3)},
	} {
		got, code := impl.AddPadics(c.x, c.y)
		swapped, swappedCode := impl.AddPadics(c.y, c.x)
		if got != c.want || code != impl.ErrNone || swapped != c.want || swappedCode != impl.ErrNone {
			t.Error("AddPadics", c, got, code, swapped, swappedCode)
		}
	}
	for _, c := range [][2]impl.Padic{
		{padic(3, 58, 1, 3), padic(3, 58, 26, 3)}, {padic(3, 60, 1, 3), padic(3, 60, 2, 3)}, {padic(3, 60, 1, 1), padic(3, 60, 2, 1)},
		{padic(2, 60, 1, 29), padic(2, 60, 1, 29)}, {padic(3, 59, 1, 3), padic(3, 59, 8, 3)},
	} {
		if got, code := impl.AddPadics(c[0], c[1]); got != (impl.Padic{}) || code != impl.ErrLimit {
			t.Error("AddPadics", c, got, code)
		}
	}
}

// TestPromise4ProductsAreExact also multiplies greater integers that have the same known digits.
func TestPromise4ProductsAreExact(t *testing.T) {
	for _, list := range validPadics() {
		for i, x := range list {
			for j, y := range list {
				precision := min(x.Precision, y.Precision)
				valuation := x.Valuation + y.Valuation
				want := padic(x.Prime, valuation, 0, 0)
				if precision > 0 {
					m := new(big.Int).Exp(big.NewInt(x.Prime), big.NewInt(precision), nil)
					unit := new(big.Int).Mul(big.NewInt(x.Unit), big.NewInt(y.Unit))
					want = padic(x.Prime, valuation, unit.Mod(unit, m).Int64(), precision)
				}
				want, wantCode := limited(want)
				got, code := impl.MultiplyPadics(x, y)
				if got != want || code != wantCode {
					t.Fatal("MultiplyPadics", x, y, got, code, want, wantCode)
				}
				if code != impl.ErrNone {
					continue
				}
				product := new(big.Int).Mul(scaled(x, int64(i%3)), scaled(y, int64(j%3)))
				wrong := product.Sub(product, new(big.Int).Mul(scaled(got, 0), bigPower(x.Prime, 0)))
				if !impl.IsPadic(got) || wrong.Mod(wrong, bigPower(x.Prime, scale+valuation+precision)).Sign() != 0 {
					t.Fatal("MultiplyPadics has a wrong digit", x, y, got)
				}
			}
		}
	}
}

func TestMultiplyPadics(t *testing.T) {
	for _, c := range []struct {
		x, y, want impl.Padic
		code       int64
	}{
		{padic(3, 2, 2, 3), padic(3, 0, 1, 3), padic(3, 2, 2, 3), impl.ErrNone},
		{padic(3, 2, 26, 3), padic(3, -5, 5, 2), padic(3, -3, 4, 2), impl.ErrNone},
		{padic(2, 1, 1, 1), padic(2, 1, 1<<29-1, 29), padic(2, 2, 1, 1), impl.ErrNone},
		{padic(2, 0, 1<<29-1, 29), padic(2, 0, 1<<29-1, 29), padic(2, 0, 1, 29), impl.ErrNone},
		{padic(31, 0, 887503680, 6), padic(31, 0, 887503679, 6), padic(31, 0, 2, 6), impl.ErrNone},
		{padic(3, 2, 0, 0), padic(3, 1, 2, 3), padic(3, 3, 0, 0), impl.ErrNone},
		{padic(3, 2, 0, 0), padic(3, -7, 0, 0), padic(3, -5, 0, 0), impl.ErrNone},
		{padic(3, 30, 2, 3), padic(3, 30, 2, 3), padic(3, 60, 4, 3), impl.ErrNone},
		{padic(3, -30, 2, 3), padic(3, -30, 0, 0), padic(3, -60, 0, 0), impl.ErrNone},
		{padic(3, 60, 2, 3), padic(3, -60, 14, 3), padic(3, 0, 1, 3), impl.ErrNone},
		{padic(3, 30, 2, 3), padic(3, 31, 2, 3), impl.Padic{}, impl.ErrLimit},
		{padic(3, -31, 2, 3), padic(3, -30, 2, 3), impl.Padic{}, impl.ErrLimit},
		{padic(3, 60, 2, 3), padic(3, 60, 0, 0), impl.Padic{}, impl.ErrLimit},
		{padic(3, -60, 0, 0), padic(3, -1, 0, 0), impl.Padic{}, impl.ErrLimit},
	} {
		got, code := impl.MultiplyPadics(c.x, c.y)
		swapped, swappedCode := impl.MultiplyPadics(c.y, c.x)
		if got != c.want || code != c.code || swapped != c.want || swappedCode != c.code {
			t.Error("MultiplyPadics", c, got, code, swapped, swappedCode)
		}
	}
}

func TestNegatePadic(t *testing.T) {
	for _, list := range validPadics() {
		for _, x := range list {
			end := x.Valuation + x.Precision
			want, _ := known(x.Prime, min(end, impl.MaxValuation), new(big.Int))
			if x.Precision > 0 {
				want, _ = known(x.Prime, end, new(big.Int).Neg(scaled(x, 0)))
			}
			got, code := impl.NegatePadic(x)
			back, backCode := impl.NegatePadic(got)
			if got != want || code != impl.ErrNone || back != x || backCode != impl.ErrNone {
				t.Fatal("NegatePadic", x, got, code, back, backCode)
			}
		}
	}
	for _, c := range [][2]impl.Padic{
		{padic(3, 0, 1, 3), padic(3, 0, 26, 3)}, {padic(2, 60, 1, 1), padic(2, 60, 1, 1)}, {padic(2, -60, 1, 29), padic(2, -60, 1<<29-1, 29)}, {padic(3, 7, 0, 0), padic(3, 7, 0, 0)},
	} {
		if got, code := impl.NegatePadic(c[0]); got != c[1] || code != impl.ErrNone {
			t.Error("NegatePadic", c, got, code)
		}
	}
}

func TestPromise4ProductWithInverseIsOne(t *testing.T) {
	for _, list := range validPadics() {
		for _, x := range list {
			got, code := impl.InvertPadic(x)
			if x.Precision == 0 {
				if got != (impl.Padic{}) || code != impl.ErrNotFound {
					t.Fatal("InvertPadic", x, got, code)
				}
				continue
			}
			if got.Prime != x.Prime || got.Valuation != -x.Valuation || got.Precision != x.Precision || code != impl.ErrNone || !impl.IsPadic(got) {
				t.Fatal("InvertPadic", x, got, code)
			}
			if one, code := impl.MultiplyPadics(x, got); one != padic(x.Prime, 0, 1, x.Precision) || code != impl.ErrNone {
				t.Fatal("MultiplyPadics with InvertPadic", x, got, one, code)
			}
		}
	}
	if got, code := impl.InvertPadic(padic(3, 2, 2, 3)); got != padic(3, -2, 14, 3) || code != impl.ErrNone {
		t.Error("InvertPadic", got, code)
	}
}

func TestCutPadic(t *testing.T) {
	for _, list := range validPadics() {
		for _, x := range list {
			m := int64(1)
			for k := int64(1); k <= x.Precision; k++ {
				m *= x.Prime
				if got, code := impl.CutPadic(x, k); got != padic(x.Prime, x.Valuation, x.Unit%m, k) || code != impl.ErrNone || !impl.IsPadic(got) {
					t.Fatal("CutPadic", x, k, got, code)
				}
			}
			for _, k := range append(notValues(), 0, -1, -x.Precision-1, x.Precision+1, x.Precision+2, 1<<32+1) {
				if got, code := impl.CutPadic(x, k); got != (impl.Padic{}) || code != impl.ErrRange {
					t.Fatal("CutPadic", x, k, got, code)
				}
			}
		}
	}
}

// equalUpTo gives by steps the greatest place up to both ends below which no digit differs.
func equalUpTo(x, y impl.Padic) int64 {
	end := min(x.Valuation+x.Precision, y.Valuation+y.Precision)
	difference := new(big.Int).Sub(scaled(x, 0), scaled(y, 0))
	place := min(x.Valuation, y.Valuation)
	for place < end && new(big.Int).Mod(difference, bigPower(x.Prime, place+1)).Sign() == 0 {
		place++
	}
	return place
}

func TestAreEqualTo(t *testing.T) {
	for _, list := range validPadics() {
		for _, x := range list {
			for _, y := range list {
				want, wantCode := equalUpTo(x, y), int64(impl.ErrNone)
				if want > impl.MaxValuation {
					want, wantCode = 0, impl.ErrLimit
				}
				if got, code := impl.AreEqualTo(x, y); got != want || code != wantCode {
					t.Fatal("AreEqualTo", x, y, got, code, want, wantCode)
				}
			}
		}
	}
	for _, c := range []struct {
		x, y       impl.Padic
		want, code int64
	}{
		{padic(3, 0, 1, 3), padic(3, 0, 10, 3), 2, impl.ErrNone}, {padic(3, 0, 1, 3), padic(3, 0, 1, 3), 3, impl.ErrNone},
		{padic(3, 0, 1, 3), padic(3, 0, 2, 3), 0, impl.ErrNone}, {padic(3, 0, 1, 3), padic(3, 0, 10, 2), 0, impl.ErrInvalid},
		{padic(3, 0, 10, 3), padic(3, 0, 1, 2), 2, impl.ErrNone}, {padic(3, -60, 1, 3), padic(3, 60, 1, 3), -60, impl.ErrNone},
		{padic(2, 0, 1, 1), padic(2, 0, 1<<29-1, 29), 1, impl.ErrNone}, {padic(3, 5, 0, 0), padic(3, 2, 1, 18), 2, impl.ErrNone},
		{padic(3, 5, 0, 0), padic(3, 5, 1, 18), 5, impl.ErrNone}, {padic(3, 60, 0, 0), padic(3, 60, 0, 0), 60, impl.ErrNone},
		{padic(3, 60, 1, 1), padic(3, 60, 2, 1), 60, impl.ErrNone}, {padic(3, 60, 1, 1), padic(3, 60, 1, 1), 0, impl.ErrLimit},
	} {
		if got, code := impl.AreEqualTo(c.x, c.y); got != c.want || code != c.code {
			t.Error("AreEqualTo", c, got, code)
		}
	}
}

func TestEndOf(t *testing.T) {
	for _, list := range validPadics() {
		for _, x := range list {
			if got, code := impl.EndOf(x); got != x.Valuation+x.Precision || code != impl.ErrNone {
				t.Fatal("EndOf", x, got, code)
			}
		}
	}
	// An end is no valuation, so that the limit does not bound it.
	if got, code := impl.EndOf(padic(2, 60, 1, 29)); got != 89 || code != impl.ErrNone {
		t.Error("EndOf", got, code)
	}
}

func TestDigitAt(t *testing.T) {
	for _, list := range validPadics() {
		for _, x := range list {
			end := x.Valuation + x.Precision
			rest := x.Unit
			for place := x.Valuation; place < end; place++ {
				if got, code := impl.DigitAt(x, place); got != rest%x.Prime || code != impl.ErrNone {
					t.Fatal("DigitAt", x, place, got, code)
				}
				rest /= x.Prime
			}
			for _, place := range []int64{x.Valuation - 1, x.Valuation - 2, -1000, -impl.MaxValue - 1, math.MinInt64, math.MinInt64 + 1} {
				if got, code := impl.DigitAt(x, place); got != 0 || code != impl.ErrNone {
					t.Fatal("DigitAt below the valuation", x, place, got, code)
				}
			}
			for _, place := range []int64{end, end + 1, end + 2, 1000, impl.MaxValue + 1, math.MaxInt64} {
				if got, code := impl.DigitAt(x, place); got != 0 || code != impl.ErrNotFound {
					t.Fatal("DigitAt beyond the end", x, place, got, code)
				}
			}
		}
	}
	for place, want := range []int64{2, 1, 0} {
		if got, code := impl.DigitAt(padic(3, 0, 5, 3), int64(place)); got != want || code != impl.ErrNone {
			t.Error("DigitAt", place, got, code)
		}
	}
}

func TestInvalidPadics(t *testing.T) {
	none := impl.Padic{}
	for _, x := range invalidPadics() {
		if got, code := impl.NegatePadic(x); got != none || code != impl.ErrInvalid {
			t.Fatal("NegatePadic", x, got, code)
		}
		if got, code := impl.InvertPadic(x); got != none || code != impl.ErrInvalid {
			t.Fatal("InvertPadic", x, got, code)
		}
		if got, code := impl.EndOf(x); got != 0 || code != impl.ErrInvalid {
			t.Fatal("EndOf", x, got, code)
		}
		for _, n := range append(notValues(), -1, 0, 1, 100) {
			if got, code := impl.CutPadic(x, n); got != none || code != impl.ErrInvalid {
				t.Fatal("CutPadic", x, n, got, code)
			}
			if got, code := impl.DigitAt(x, n); got != 0 || code != impl.ErrInvalid {
				t.Fatal("DigitAt", x, n, got, code)
			}
		}
	}
}

// TestInvalidPairs gives invalid numbers beside others by any prime: that they are invalid comes
// before their primes and before the limit.
func TestInvalidPairs(t *testing.T) {
	for _, x := range invalidPadics() {
		for _, y := range []impl.Padic{x, {}, padic(3, 0, 1, 3), padic(2, 60, 1, 29), padic(2, 60, 0, 0), padic(97, -60, 1, 4)} {
			for _, pair := range [][2]impl.Padic{{x, y}, {y, x}} {
				sum, one := impl.AddPadics(pair[0], pair[1])
				product, two := impl.MultiplyPadics(pair[0], pair[1])
				place, three := impl.AreEqualTo(pair[0], pair[1])
				if sum != (impl.Padic{}) || product != sum || place != 0 {
					t.Fatal("results beside an error", pair, sum, product, place)
				}
				if one != impl.ErrInvalid || two != impl.ErrInvalid || three != impl.ErrInvalid {
					t.Fatal("codes", pair, one, two, three)
				}
			}
		}
	}
}

// TestDifferentPrimes also gives pairs whose result would be beyond the limit with one prime.
func TestDifferentPrimes(t *testing.T) {
	for _, pair := range [][2]impl.Padic{
		{padic(2, 0, 1, 3), padic(3, 0, 1, 3)}, {padic(3, 0, 1, 3), padic(2, 0, 1, 3)}, {padic(97, 60, 1, 1), padic(89, 60, 1, 1)},
		{padic(2, 60, 1, 1), padic(3, 60, 2, 1)}, {padic(5, -60, 1, 1), padic(7, -60, 1, 1)}, {padic(2, 60, 0, 0), padic(3, 60, 0, 0)},
	} {
		sum, one := impl.AddPadics(pair[0], pair[1])
		product, two := impl.MultiplyPadics(pair[0], pair[1])
		place, three := impl.AreEqualTo(pair[0], pair[1])
		if sum != (impl.Padic{}) || product != sum || place != 0 {
			t.Error("results beside an error", pair, sum, product, place)
		}
		if one != impl.ErrState || two != impl.ErrState || three != impl.ErrState {
			t.Error("codes", pair, one, two, three)
		}
	}
}
