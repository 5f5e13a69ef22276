package tests

import (
	"math/big"
	"slices"
	"strings"
	"testing"

	"loop.example/g01000/impl"
)

// largestOperand bounds the numerators and denominators that AddRationals and MultiplyRationals take.
const largestOperand = 1000000

func rational(num, den int64) impl.Rational {
	return impl.Rational{Num: num, Den: den}
}

func exactRational(q impl.Rational) *big.Rat {
	return big.NewRat(q.Num, q.Den)
}

// fitted gives the valid number that is equal to a fraction, or none and ErrLimit if it is too great.
func fitted(exact *big.Rat) (impl.Rational, int64) {
	most := big.NewInt(impl.MaxValue)
	if exact.Num().CmpAbs(most) > 0 || exact.Denom().Cmp(most) > 0 {
		return impl.Rational{}, impl.ErrLimit
	}
	return rational(exact.Num().Int64(), exact.Denom().Int64()), impl.ErrNone
}

// fractionsOf gives the valid numbers whose numerators and denominators are in two lists, with both signs.
func fractionsOf(nums, dens []int64) []impl.Rational {
	list := []impl.Rational{}
	for _, num := range nums {
		for _, den := range dens {
			if q := exactRational(rational(num, den)); q.Num().Int64() == num && q.Denom().Int64() == den {
				list = append(list, rational(num, den), rational(-num, den))
			}
		}
	}
	return list
}

// operands gives numbers that may be added and multiplied: 0, small ones, and those at the ends.
func operands() []impl.Rational {
	small := []int64{1, 2, 3, 4, 5, 6, 7, 8, 9}
	great := []int64{1, 2, 3, 97, 1 << 19, 531441, 912673, largestOperand - 3, largestOperand - 2, largestOperand - 1, largestOperand}
	return slices.Concat([]impl.Rational{rational(0, 1)}, fractionsOf(small, small), fractionsOf(great, great))
}

// beyondOperands gives valid numbers of which a part is out of the range of sums and products.
func beyondOperands() []impl.Rational {
	beyond := []int64{largestOperand + 1, largestOperand + 2, 1 << 32, 1<<32 + 1, impl.MaxValue - 1, impl.MaxValue}
	within := []int64{1, 2, 3, largestOperand - 1, largestOperand}
	return slices.Concat(fractionsOf(beyond, within), fractionsOf(within, beyond), fractionsOf(beyond, beyond))
}

// allRationals gives valid numbers of all sizes, also with great powers of small primes.
func allRationals() []impl.Rational {
	powers := []int64{1}
	for _, p := range []int64{2, 3, 5, 13, 89, 97} {
		power := p
		for power <= impl.MaxValue/p {
			power *= p
		}
		powers = append(powers, power, power/p*(p-1))
	}
	return slices.Concat(operands(), beyondOperands(), fractionsOf(powers, powers))
}

// invalidRationals gives numbers that miss each condition alone, and some that miss several.
func invalidRationals() []impl.Rational {
	list := []impl.Rational{
		{}, rational(0, 2), rational(0, -1), rational(0, impl.MaxValue), rational(1, 0), rational(-1, 0), rational(impl.MaxValue, 0),
		rational(1, -1), rational(-1, -1), rational(3, -2), rational(-3, -2), rational(6, -4), rational(1, -impl.MaxValue),
		rational(2, 2), rational(-2, 2), rational(2, 4), rational(-6, 4), rational(4, 2), rational(97, 97), rational(1<<20, 1<<10), rational(1000003, 1000003),
		rational(impl.MaxValue, impl.MaxValue), rational(-impl.MaxValue, impl.MaxValue), rational(impl.MaxValue, 2),
	}
	for _, n := range notValues() {
		list = append(list, rational(n, 1), rational(n, 7), rational(n, 0), rational(1, n), rational(-1, n), rational(0, n), rational(n, n), rational(n, impl.MaxValue))
	}
	return list
}

// notPrimes gives integers that are no primes, or too great ones.
func notPrimes() []int64 {
	return append(notValues(), -97, -3, -2, -1, 0, 1, 4, 9, 91, 96, 98, 99, 101, 999983, 1<<32+2)
}

// exactValuation gives the valuation of a fraction other than 0 by multiplications.
func exactValuation(exact *big.Rat, p int64) int64 {
	valuation := int64(0)
	count := func(n *big.Int, step int64) {
		rest := new(big.Int).Set(n)
		for {
			quotient, remainder := new(big.Int).QuoRem(rest, big.NewInt(p), new(big.Int))
			if remainder.Sign() != 0 {
				return
			}
			rest = quotient
			valuation += step
		}
	}
	count(exact.Num(), 1)
	count(exact.Denom(), -1)
	return valuation
}

// placePower gives p to the power of place, which can be negative.
func placePower(p, place int64) *big.Rat {
	return new(big.Rat).SetFrac(bigPower(p, place), bigPower(p, 0))
}

func TestIsRational(t *testing.T) {
	for num := int64(-40); num <= 40; num++ {
		for den := int64(-40); den <= 40; den++ {
			want := den > 0
			for d := int64(2); d <= 40; d++ {
				want = want && (num%d != 0 || den%d != 0)
			}
			if q := rational(num, den); impl.IsRational(q) != want {
				t.Fatal("IsRational", q, "is not", want)
			}
		}
	}
	for _, q := range allRationals() {
		if !impl.IsRational(q) {
			t.Fatal("IsRational", q)
		}
	}
	for _, q := range invalidRationals() {
		if impl.IsRational(q) {
			t.Error("IsRational", q)
		}
	}
}

func TestMakeRational(t *testing.T) {
	nums := []int64{impl.MaxValue, impl.MaxValue - 1, 1 << 39, 3 << 37, 999983 * 999979, largestOperand, largestOperand + 1, 1 << 32}
	for n := range int64(30) {
		nums = append(nums, n)
	}
	for _, num := range nums {
		for _, den := range nums {
			if den == 0 {
				continue
			}
			for _, c := range [][2]int64{{num, den}, {-num, den}, {num, -den}, {-num, -den}} {
				want, _ := fitted(big.NewRat(c[0], c[1]))
				if got, code := impl.MakeRational(c[0], c[1]); got != want || code != impl.ErrNone || !impl.IsRational(got) {
					t.Fatal("MakeRational", c, got, code, want)
				}
			}
		}
	}
	for _, c := range []struct {
		num, den int64
		want     impl.Rational
	}{
		{6, -4, rational(-3, 2)}, {-6, -4, rational(3, 2)}, {0, 7, rational(0, 1)}, {0, -7, rational(0, 1)}, {0, -impl.MaxValue, rational(0, 1)}, {5, 1, rational(5, 1)}, {5, -1, rational(-5, 1)},
		{impl.MaxValue, impl.MaxValue, rational(1, 1)}, {-impl.MaxValue, impl.MaxValue, rational(-1, 1)}, {impl.MaxValue, -1, rational(-impl.MaxValue, 1)}, {1, -impl.MaxValue, rational(-1, impl.MaxValue)},
	} {
		if got, code := impl.MakeRational(c.num, c.den); got != c.want || code != impl.ErrNone {
			t.Error("MakeRational", c, got, code)
		}
	}
}

// TestMakeRationalErrors also gives a denominator 0 beside a number that is no value, which comes first.
func TestMakeRationalErrors(t *testing.T) {
	none := impl.Rational{}
	for _, n := range notValues() {
		for _, other := range append(notValues(), 0, 1, -1, n, impl.MaxValue) {
			if got, code := impl.MakeRational(n, other); got != none || code != impl.ErrRange {
				t.Error("MakeRational", n, other, got, code)
			}
			if got, code := impl.MakeRational(other, n); got != none || code != impl.ErrRange {
				t.Error("MakeRational", other, n, got, code)
			}
		}
	}
	for _, num := range []int64{0, 1, -1, impl.MaxValue, -impl.MaxValue} {
		if got, code := impl.MakeRational(num, 0); got != none || code != impl.ErrState {
			t.Error("MakeRational", num, got, code)
		}
	}
}

func TestSumsAndProductsAreExact(t *testing.T) {
	list := operands()
	for _, a := range list {
		for _, b := range list {
			want, wantCode := fitted(new(big.Rat).Add(exactRational(a), exactRational(b)))
			if got, code := impl.AddRationals(a, b); got != want || code != wantCode {
				t.Fatal("AddRationals", a, b, got, code, want, wantCode)
			}
			want, wantCode = fitted(new(big.Rat).Mul(exactRational(a), exactRational(b)))
			if got, code := impl.MultiplyRationals(a, b); got != want || code != wantCode {
				t.Fatal("MultiplyRationals", a, b, got, code, want, wantCode)
			}
		}
	}
}

func TestAddRationals(t *testing.T) {
	for _, c := range []struct {
		a, b, want impl.Rational
		code       int64
	}{
		{rational(1, 2), rational(1, 3), rational(5, 6), impl.ErrNone},
		{rational(1, 6), rational(1, 3), rational(1, 2), impl.ErrNone},
		{rational(1, 2), rational(-1, 2), rational(0, 1), impl.ErrNone},
		{rational(0, 1), rational(0, 1), rational(0, 1), impl.ErrNone},
		{rational(0, 1), rational(-largestOperand, largestOperand-1), rational(-largestOperand, largestOperand-1), impl.ErrNone},
		{rational(largestOperand, 1), rational(largestOperand, 1), rational(2*largestOperand, 1), impl.ErrNone},
		{rational(1, largestOperand), rational(1, largestOperand-1), rational(2*largestOperand-1, 999999000000), impl.ErrNone},
		// The numerator is MaxValue, and it is greater by 1.
		{rational(largestOperand, 1), rational(largestOperand, 999999), rational(impl.MaxValue, 999999), impl.ErrNone},
		{rational(-largestOperand, 1), rational(-largestOperand, 999999), rational(-impl.MaxValue, 999999), impl.ErrNone},
		{rational(999999, 2), rational(largestOperand, 999999), impl.Rational{}, impl.ErrLimit},
		{rational(-999999, 2), rational(-largestOperand, 999999), impl.Rational{}, impl.ErrLimit},
		// The numerator is greater than MaxValue only before it is in lowest terms.
		{rational(largestOperand, 999999), rational(largestOperand, 999999), rational(2*largestOperand, 999999), impl.ErrNone},
		{rational(largestOperand, 999999), rational(999999, largestOperand), impl.Rational{}, impl.ErrLimit},
		{rational(largestOperand, 999999), rational(-999999, largestOperand), rational(1999999, 999999000000), impl.ErrNone},
	} {
		got, code := impl.AddRationals(c.a, c.b)
		swapped, swappedCode := impl.AddRationals(c.b, c.a)
		if got != c.want || code != c.code || swapped != c.want || swappedCode != c.code {
			t.Error("AddRationals", c, got, code, swapped, swappedCode)
		}
	}
}

func TestMultiplyRationals(t *testing.T) {
	for _, c := range []struct {
		a, b, want impl.Rational
	}{
		{rational(1, 2), rational(1, 3), rational(1, 6)},
		{rational(2, 3), rational(3, 2), rational(1, 1)},
		{rational(-2, 3), rational(-9, 4), rational(3, 2)},
		{rational(0, 1), rational(-5, 3), rational(0, 1)},
		{rational(0, 1), rational(1, largestOperand), rational(0, 1)},
		{rational(largestOperand, 1), rational(largestOperand, 1), rational(impl.MaxValue, 1)},
		{rational(largestOperand, 1), rational(-largestOperand, 1), rational(-impl.MaxValue, 1)},
		{rational(1, largestOperand), rational(-1, largestOperand), rational(-1, impl.MaxValue)},
		{rational(largestOperand, 999999), rational(999999, largestOperand), rational(1, 1)},
		{rational(largestOperand, 999999), rational(largestOperand, 999999), rational(impl.MaxValue, 999998000001)},
	} {
		got, code := impl.MultiplyRationals(c.a, c.b)
		swapped, swappedCode := impl.MultiplyRationals(c.b, c.a)
		if got != c.want || code != impl.ErrNone || swapped != c.want || swappedCode != impl.ErrNone {
			t.Error("MultiplyRationals", c, got, code, swapped, swappedCode)
		}
	}
}

// testOperandErrors calls both operations with a pair in both orders.
func testOperandErrors(t *testing.T, a, b impl.Rational, want int64) {
	t.Helper()
	for _, pair := range [][2]impl.Rational{{a, b}, {b, a}} {
		sum, code := impl.AddRationals(pair[0], pair[1])
		product, two := impl.MultiplyRationals(pair[0], pair[1])
		if sum != (impl.Rational{}) || product != sum || code != want || two != want {
			t.Fatal("AddRationals and MultiplyRationals", pair, sum, code, product, two)
		}
	}
}

// TestErrorsOfSumsAndProducts gives invalid numbers also beside those that are out of range, and
// these also where the result would be beyond the limit.
func TestErrorsOfSumsAndProducts(t *testing.T) {
	for _, q := range invalidRationals() {
		for _, other := range append(beyondOperands(), q, rational(0, 1), rational(1, 2), rational(-largestOperand, 1)) {
			testOperandErrors(t, q, other, impl.ErrInvalid)
		}
	}
	for _, q := range beyondOperands() {
		for _, other := range append(operands(), q, rational(-impl.MaxValue, 1), rational(1, impl.MaxValue)) {
			testOperandErrors(t, q, other, impl.ErrRange)
		}
	}
}

func TestRationalValuation(t *testing.T) {
	for n, prime := range primeTable(impl.MaxPrime) {
		p := int64(n)
		for _, q := range allRationals() {
			got, code := impl.RationalValuation(q, p)
			if !prime {
				if got != 0 || code != impl.ErrInvalid {
					t.Fatal("RationalValuation", q, p, got, code)
				}
			} else if q.Num == 0 {
				if got != 0 || code != impl.ErrState {
					t.Fatal("RationalValuation", q, p, got, code)
				}
			} else if got != exactValuation(exactRational(q), p) || code != impl.ErrNone {
				t.Fatal("RationalValuation", q, p, got, code)
			}
		}
	}
	for _, c := range []struct {
		q       impl.Rational
		p, want int64
	}{
		{rational(3, 4), 2, -2}, {rational(3, 4), 3, 1}, {rational(3, 4), 5, 0}, {rational(-18, 5), 3, 2}, {rational(1<<39, 1), 2, 39}, {rational(-1, 1<<39), 2, -39},
		{rational(impl.MaxValue, 1), 5, 12}, {rational(1, impl.MaxValue), 5, -12}, {rational(97, 89), 97, 1}, {rational(97, 89), 89, -1},
	} {
		if got, code := impl.RationalValuation(c.q, c.p); got != c.want || code != impl.ErrNone {
			t.Error("RationalValuation", c, got, code)
		}
	}
}

func TestRationalValuationErrors(t *testing.T) {
	for _, q := range invalidRationals() {
		for _, p := range append(notPrimes(), 2, 3, 97) {
			if got, code := impl.RationalValuation(q, p); got != 0 || code != impl.ErrInvalid {
				t.Fatal("RationalValuation", q, p, got, code)
			}
		}
	}
	for _, p := range notPrimes() {
		for _, q := range []impl.Rational{rational(0, 1), rational(1, 1), rational(-12, 5), rational(impl.MaxValue, 1)} {
			if got, code := impl.RationalValuation(q, p); got != 0 || code != impl.ErrInvalid {
				t.Fatal("RationalValuation", q, p, got, code)
			}
		}
	}
}

// exactPadic gives the number with the precision of a ring for a fraction other than 0, by the
// inverse that a library for integers finds.
func exactPadic(exact *big.Rat, r impl.Ring, m int64) impl.Padic {
	valuation := exactValuation(exact, r.Prime)
	unit := new(big.Rat).Mul(exact, placePower(r.Prime, -valuation))
	inverse := new(big.Int).ModInverse(unit.Denom(), big.NewInt(m))
	residue := inverse.Mod(inverse.Mul(inverse, unit.Num()), big.NewInt(m))
	return padic(r.Prime, valuation, residue.Int64(), r.Precision)
}

func TestPadicOf(t *testing.T) {
	for r, m := range validRings() {
		for _, q := range allRationals() {
			want, wantCode := impl.Padic{}, int64(impl.ErrState)
			if q.Num != 0 {
				want, wantCode = exactPadic(exactRational(q), r, m), impl.ErrNone
			}
			got, code := impl.PadicOf(q, r)
			if got != want || code != wantCode || impl.IsPadic(got) != (code == impl.ErrNone) {
				t.Fatal("PadicOf", q, r, got, code, want, wantCode)
			}
		}
	}
	for _, c := range []struct {
		q    impl.Rational
		r    impl.Ring
		want impl.Padic
	}{
		{rational(1, 2), impl.Ring{Prime: 5, Precision: 2}, padic(5, 0, 13, 2)}, {rational(-1, 2), impl.Ring{Prime: 5, Precision: 2}, padic(5, 0, 12, 2)},
		{rational(50, 3), impl.Ring{Prime: 5, Precision: 2}, padic(5, 2, 9, 2)}, {rational(3, 50), impl.Ring{Prime: 5, Precision: 2}, padic(5, -2, 14, 2)},
		{rational(1, 2), impl.Ring{Prime: 2, Precision: 1}, padic(2, -1, 1, 1)}, {rational(-1, 1<<39), impl.Ring{Prime: 2, Precision: 29}, padic(2, -39, 1<<29-1, 29)},
		{rational(impl.MaxValue, 1), impl.Ring{Prime: 5, Precision: 1}, padic(5, 12, 1, 1)}, {rational(-96, 97), impl.Ring{Prime: 97, Precision: 1}, padic(97, -1, 1, 1)},
	} {
		if got, code := impl.PadicOf(c.q, c.r); got != c.want || code != impl.ErrNone {
			t.Error("PadicOf", c, got, code)
		}
	}
}

// TestPadicOfErrors also gives 0 in a ring that is not valid, which comes first.
func TestPadicOfErrors(t *testing.T) {
	for _, q := range invalidRationals() {
		for _, r := range []impl.Ring{{}, {Prime: 2, Precision: 1}, {Prime: 5, Precision: 12}, {Prime: 5, Precision: 13}, {Prime: 4, Precision: 1}} {
			if got, code := impl.PadicOf(q, r); got != (impl.Padic{}) || code != impl.ErrInvalid {
				t.Fatal("PadicOf", q, r, got, code)
			}
		}
	}
	for _, r := range invalidRings() {
		for _, q := range []impl.Rational{rational(0, 1), rational(1, 1), rational(-6, 35), rational(1, impl.MaxValue)} {
			if got, code := impl.PadicOf(q, r); got != (impl.Padic{}) || code != impl.ErrInvalid {
				t.Fatal("PadicOf", q, r, got, code)
			}
		}
	}
	for r := range validRings() {
		if got, code := impl.PadicOf(rational(0, 1), r); got != (impl.Padic{}) || code != impl.ErrState {
			t.Fatal("PadicOf", r, got, code)
		}
	}
}

// doesAgree tells whether x stands for q: whether their difference is 0 or divided by p to the power
// of the end.
func doesAgree(q impl.Rational, x impl.Padic) bool {
	unit := new(big.Rat).SetInt64(x.Unit)
	difference := new(big.Rat).Sub(exactRational(q), unit.Mul(unit, placePower(x.Prime, x.Valuation)))
	return difference.Sign() == 0 || exactValuation(difference, x.Prime) >= x.Valuation+x.Precision
}

func TestDoAgree(t *testing.T) {
	small := []int64{1, 2, 3, 4, 5, 6, 7, 8, 9, 10, 12, 16, 18, 27, 32}
	list := append(fractionsOf(small, small), rational(0, 1), rational(1<<39, 1), rational(-1, 1<<39), rational(impl.MaxValue, 1), rational(1, impl.MaxValue))
	agree := 0
	for _, padics := range [][]impl.Padic{smallPadics(2, 6, 3), smallPadics(3, 3, 2), smallPadics(5, 2, 2), widePadics(2), widePadics(31), widePadics(97)} {
		for _, x := range padics {
			for _, q := range list {
				want := doesAgree(q, x)
				if got, code := impl.DoAgree(q, x); got != want || code != impl.ErrNone {
					t.Fatal("DoAgree", q, x, got, code)
				}
				if want {
					agree++
				}
			}
		}
	}
	if agree < 1000 {
		t.Error("pairs that agree", agree)
	}
	for _, c := range []struct {
		q    impl.Rational
		x    impl.Padic
		want bool
	}{
		{rational(1, 2), padic(5, 0, 13, 2), true}, {rational(1, 2), padic(5, 0, 3, 1), true}, {rational(1, 2), padic(5, 0, 38, 3), false}, {rational(1, 2), padic(5, 1, 13, 2), false},
		{rational(1, 2), padic(2, 0, 1, 1), false}, {rational(1, 2), padic(2, -1, 1, 1), true}, {rational(3, 2), padic(2, -1, 1, 1), true}, {rational(0, 1), padic(2, 60, 1, 29), false},
		// A zero stands for 0 and for all numbers that its power of p divides.
		{rational(0, 1), padic(2, 60, 0, 0), true}, {rational(0, 1), padic(2, -60, 0, 0), true}, {rational(9, 5), padic(3, 2, 0, 0), true}, {rational(9, 5), padic(3, 3, 0, 0), false},
		{rational(9, 5), padic(3, 1, 0, 0), true}, {rational(5, 9), padic(3, -2, 0, 0), true}, {rational(5, 9), padic(3, -1, 0, 0), false}, {rational(5, 9), padic(3, 0, 0, 0), false},
		{rational(-1, impl.MaxValue), padic(5, -12, 0, 0), true}, {rational(-1, impl.MaxValue), padic(5, -11, 0, 0), false},
	} {
		if got, code := impl.DoAgree(c.q, c.x); got != c.want || code != impl.ErrNone {
			t.Error("DoAgree", c, got, code)
		}
	}
}

// TestPadicOfAgrees compares PadicOf with DoAgree: a number agrees also with fewer digits, but not
// with another digit at the end.
func TestPadicOfAgrees(t *testing.T) {
	for r, m := range validRings() {
		for _, q := range allRationals() {
			if q.Num == 0 {
				continue
			}
			x, _ := impl.PadicOf(q, r)
			for k := int64(1); k <= r.Precision; k++ {
				cut, _ := impl.CutPadic(x, k)
				if got, code := impl.DoAgree(q, cut); !got || code != impl.ErrNone {
					t.Fatal("DoAgree", q, cut, got, code)
				}
			}
			x.Unit = (x.Unit + m/r.Prime) % m
			if got, code := impl.DoAgree(q, x); r.Precision > 1 && (got || code != impl.ErrNone) {
				t.Fatal("DoAgree with a wrong digit", q, x, got, code)
			}
		}
	}
}

func TestDoAgreeErrors(t *testing.T) {
	for _, q := range invalidRationals() {
		for _, x := range []impl.Padic{{}, padic(3, 0, 1, 1), padic(3, 0, 0, 0), padic(2, 60, 1, 29), padic(4, 0, 1, 1)} {
			if got, code := impl.DoAgree(q, x); got || code != impl.ErrInvalid {
				t.Fatal("DoAgree", q, x, got, code)
			}
		}
	}
	for _, x := range invalidPadics() {
		for _, q := range []impl.Rational{rational(0, 1), rational(1, 1), rational(-1, 1), rational(1, impl.MaxValue)} {
			if got, code := impl.DoAgree(q, x); got || code != impl.ErrInvalid {
				t.Fatal("DoAgree", q, x, got, code)
			}
		}
	}
}

// boundOf gives the greatest integer whose doubled square is less than m.
func boundOf(m int64) int64 {
	return new(big.Int).Sqrt(big.NewInt((m - 1) / 2)).Int64()
}

// foundBySteps gives the number that FindRational has to find for a number that is no zero, and its
// code, by trying all denominators.
func foundBySteps(x impl.Padic, m int64) (impl.Rational, int64) {
	bound := boundOf(m)
	for den := int64(1); den <= bound; den++ {
		rest := x.Unit * den % m
		for _, num := range []int64{rest, rest - m} {
			if num < -bound || num > bound || num%x.Prime == 0 || den%x.Prime == 0 {
				continue
			}
			if exact := big.NewRat(num, den); exact.Denom().Int64() == den {
				return fitted(exact.Mul(exact, placePower(x.Prime, x.Valuation)))
			}
		}
	}
	return impl.Rational{}, impl.ErrNotFound
}

func TestBoundOf(t *testing.T) {
	for _, m := range validRings() {
		if b := boundOf(m); 2*b*b >= m || 2*(b+1)*(b+1) < m {
			t.Fatal("the bound of the tests", m, b)
		}
	}
}

// TestPromise6SmallRationalsAreFound takes all units by small moduli.
func TestPromise6SmallRationalsAreFound(t *testing.T) {
	for r, m := range validRings() {
		if m > 3000 {
			continue
		}
		for unit := range m {
			if unit%r.Prime == 0 {
				continue
			}
			for _, valuation := range []int64{-2, 0, 3} {
				x := padic(r.Prime, valuation, unit, r.Precision)
				want, wantCode := foundBySteps(x, m)
				if got, code := impl.FindRational(x); got != want || code != wantCode {
					t.Fatal("FindRational", x, got, code, want, wantCode)
				}
			}
		}
	}
}

// TestPromise6RationalsAtTheBound finds all fractions again whose parts are small or just not
// greater than the bound, and none of those just beyond it.
func TestPromise6RationalsAtTheBound(t *testing.T) {
	for r, m := range validRings() {
		bound := boundOf(m)
		parts := []int64{}
		for _, n := range []int64{1, 2, 3, 4, 5, 6, bound / 2, bound - 3, bound - 2, bound - 1, bound, bound + 1, bound + 2, bound + 3} {
			if n > 0 && n%r.Prime != 0 && !slices.Contains(parts, n) {
				parts = append(parts, n)
			}
		}
		for _, q := range fractionsOf(parts, parts) {
			for _, valuation := range []int64{0, 1, -1, 5, -7} {
				want, wantCode := fitted(new(big.Rat).Mul(exactRational(q), placePower(r.Prime, valuation)))
				x := exactPadic(exactRational(q), r, m)
				x.Valuation = valuation
				got, code := impl.FindRational(x)
				if max(q.Num, -q.Num, q.Den) <= bound {
					if got != want || code != wantCode {
						t.Fatal("FindRational within the bound", q, x, got, code)
					}
				} else if code == impl.ErrNone && got == want {
					t.Fatal("FindRational beyond the bound", q, x, got)
				}
				if agree, _ := impl.DoAgree(got, x); agree != (code == impl.ErrNone) {
					t.Fatal("FindRational does not agree", q, x, got, code)
				}
			}
		}
	}
}

// TestPromise6FoundBySteps compares with all denominators, also for numbers for which there is no
// fraction.
func TestPromise6FoundBySteps(t *testing.T) {
	counts := map[int64]int{}
	for _, x := range allPadics() {
		want, wantCode := impl.Rational{}, int64(impl.ErrNotFound)
		if x.Precision > 0 {
			want, wantCode = foundBySteps(x, bigPower(x.Prime, x.Precision-scale).Int64())
		}
		got, code := impl.FindRational(x)
		if got != want || code != wantCode {
			t.Fatal("FindRational", x, got, code, want, wantCode)
		}
		counts[code]++
	}
	if counts[impl.ErrNone] < 300 || counts[impl.ErrNotFound] < 300 || counts[impl.ErrLimit] < 100 {
		t.Error("codes of FindRational", counts)
	}
}

func TestFindRational(t *testing.T) {
	for _, c := range []struct {
		x    impl.Padic
		want impl.Rational
		code int64
	}{
		{padic(5, 0, 13, 2), rational(1, 2), impl.ErrNone}, {padic(5, 0, 12, 2), rational(-1, 2), impl.ErrNone}, {padic(5, 2, 13, 2), rational(25, 2), impl.ErrNone}, {padic(5, -2, 12, 2), rational(-1, 50), impl.ErrNone},
		// With precision 1 the bound is 0 by 2, and 1 by 3, 5 and 7; by 97 it is 6.
		{padic(2, 0, 1, 1), impl.Rational{}, impl.ErrNotFound}, {padic(2, 60, 1, 1), impl.Rational{}, impl.ErrNotFound}, {padic(2, 0, 1, 2), rational(1, 1), impl.ErrNone}, {padic(2, 0, 3, 2), rational(-1, 1), impl.ErrNone},
		{padic(3, 0, 1, 1), rational(1, 1), impl.ErrNone}, {padic(3, 0, 2, 1), rational(-1, 1), impl.ErrNone}, {padic(5, 0, 1, 1), rational(1, 1), impl.ErrNone}, {padic(5, 0, 2, 1), impl.Rational{}, impl.ErrNotFound},
		{padic(5, 0, 3, 1), impl.Rational{}, impl.ErrNotFound}, {padic(5, 0, 4, 1), rational(-1, 1), impl.ErrNone}, {padic(7, -1, 6, 1), rational(-1, 7), impl.ErrNone}, {padic(7, -1, 2, 1), impl.Rational{}, impl.ErrNotFound},
		{padic(97, 0, 6, 1), rational(6, 1), impl.ErrNone}, {padic(97, 0, 7, 1), impl.Rational{}, impl.ErrNotFound}, {padic(97, 0, 49, 1), rational(1, 2), impl.ErrNone},
		// The doubled square of 2 is 8, which is less than 9 but not less than 8.
		{padic(3, 0, 2, 2), rational(2, 1), impl.ErrNone}, {padic(3, 0, 5, 2), rational(1, 2), impl.ErrNone}, {padic(2, 0, 3, 3), impl.Rational{}, impl.ErrNotFound}, {padic(2, 0, 5, 3), impl.Rational{}, impl.ErrNotFound}, {padic(2, 0, 7, 3), rational(-1, 1), impl.ErrNone},
		// The greatest moduli, with a bound of 16383 by 2 and of 6653 by 97.
		{padic(2, 0, 16383, 29), rational(16383, 1), impl.ErrNone}, {padic(2, 0, 16385, 29), impl.Rational{}, impl.ErrNotFound}, {padic(97, 0, 6653, 4), rational(6653, 1), impl.ErrNone}, {padic(97, 0, 88529281-6653, 4), rational(-6653, 1), impl.ErrNone}, {padic(97, 0, 6654, 4), impl.Rational{}, impl.ErrNotFound},
		// A zero stands for no single number.
		{padic(3, 0, 0, 0), impl.Rational{}, impl.ErrNotFound}, {padic(3, 60, 0, 0), impl.Rational{}, impl.ErrNotFound}, {padic(3, -60, 0, 0), impl.Rational{}, impl.ErrNotFound},
		// The numerator or the denominator reaches the limit.
		{padic(2, 39, 1, 29), rational(1<<39, 1), impl.ErrNone}, {padic(2, 40, 1, 29), impl.Rational{}, impl.ErrLimit}, {padic(2, -39, 1<<29-1, 29), rational(-1, 1<<39), impl.ErrNone}, {padic(2, -40, 1, 29), impl.Rational{}, impl.ErrLimit},
		{padic(5, 12, 4096, 12), rational(impl.MaxValue, 1), impl.ErrNone}, {padic(5, 12, 244140625-4096, 12), rational(-impl.MaxValue, 1), impl.ErrNone}, {padic(5, 12, 4097, 12), impl.Rational{}, impl.ErrLimit}, {padic(5, 13, 4096, 12), impl.Rational{}, impl.ErrLimit},
		{padic(2, 60, 1, 29), impl.Rational{}, impl.ErrLimit}, {padic(2, -60, 3, 29), impl.Rational{}, impl.ErrLimit}, {padic(97, 60, 1, 4), impl.Rational{}, impl.ErrLimit}, {padic(97, -60, 1, 1), impl.Rational{}, impl.ErrLimit}, {padic(97, 60, 6654, 4), impl.Rational{}, impl.ErrNotFound},
	} {
		if got, code := impl.FindRational(c.x); got != c.want || code != c.code {
			t.Error("FindRational", c, got, code)
		}
	}
	for _, x := range invalidPadics() {
		if got, code := impl.FindRational(x); got != (impl.Rational{}) || code != impl.ErrInvalid {
			t.Fatal("FindRational", x, got, code)
		}
	}
}

func TestRationalText(t *testing.T) {
	for _, c := range []struct {
		q    impl.Rational
		want string
	}{
		{rational(0, 1), "0"}, {rational(1, 1), "1"}, {rational(-1, 1), "-1"}, {rational(-3, 2), "-3/2"}, {rational(1, 10), "1/10"}, {rational(10, 11), "10/11"}, {rational(impl.MaxValue, 1), "1000000000000"},
		{rational(-impl.MaxValue, 999999999999), "-1000000000000/999999999999"}, {rational(-1, impl.MaxValue), "-1/1000000000000"},
	} {
		if got, code := impl.RationalText(c.q); got != c.want || code != impl.ErrNone {
			t.Error("RationalText", c, got, code)
		}
	}
	for _, q := range invalidRationals() {
		if got, code := impl.RationalText(q); got != "" || code != impl.ErrInvalid {
			t.Fatal("RationalText", q, got, code)
		}
	}
}

func TestPromise1RationalsRecovered(t *testing.T) {
	for _, q := range allRationals() {
		s, code := impl.RationalText(q)
		if s != exactRational(q).RatString() || code != impl.ErrNone {
			t.Fatal("RationalText", q, s, code)
		}
		if got, code := impl.ReadRational(s); got != q || code != impl.ErrNone {
			t.Fatal("ReadRational", q, s, got, code)
		}
	}
}

func TestPromise1OnlyRationalTextsAreRead(t *testing.T) {
	for _, s := range []string{
		// Parts are missing, superfluous or 0.
		"", "-", "/", "-/", "//", "1/", "/1", "/2", "-/2", "1//2", "/1/2", "1/2/", "1/2/3", "2/1/1", "1/0", "0/0", "-1/0", "1/-0",
		// Signs, also two of them, and superfluous zeros.
		"+0", "-0", "+1", "--1", "+-1", "-+1", "1-", "1/+2", "1/-2", "-1/-2", "-1/+2", "+1/2", "- 1", "--1/2", "1-/2", "1/2-", "00", "01", "-01", "007", "01/2", "1/02", "1/002", "-01/2", "00/2", "1/00",
		// 1 is not written behind a slash, and fractions are in lowest terms.
		"0/1", "1/1", "-1/1", "5/1", "5/-1", "5/01", "0/2", "0/7", "-0/2", "2/2", "2/4", "-6/4", "4/2", "6/3", "97/97", "1000000/2", "999999000000/1000000", "1000000000000/1000000000000",
		// Beyond the greatest values, and beyond 64 bits.
		"1000000000001", "-1000000000001", "1/1000000000001", "1000000000001/2", "1/1000000000001", "9223372036854775807", "-9223372036854775808", "1/9223372036854775807", "9223372036854775808", "18446744073709551617", "1/18446744073709551618", "18446744073709551617/2", "-99999999999999999999/2",
		// Blanks, other notations and other characters.
		" 1", "1 ", "1 /2", "1/ 2", " 1/2", "1/2 ", "1/2\n", "\n1/2", "1\x00", "1/2\x00", "\t1", "0x1", "1/0x2", "1_0", "1/1_1", "1e0", "1e2", "1.0", "0.5", ".5", "1/2.0", "1:2", "1\\2", "1|2", "1,2", "1;2", "1÷2", "1⁄2", "1∕2", "½", "１", "1/２", "−1", "–1/2", "(1/2)", "{1, 2}", "{1,2}", "1 1/2", "a", "a/b", "1/a", "a/2", "inf", "NaN", "\xff", "1/\xff",
		strings.Repeat("1", 100000), strings.Repeat("0", 100000), strings.Repeat("-", 100000), strings.Repeat("/", 100000), "1/" + strings.Repeat("0", 100000) + "2", strings.Repeat("1/", 100000) + "2",
	} {
		if got, code := impl.ReadRational(s); got != (impl.Rational{}) || code != impl.ErrSyntax {
			t.Errorf("ReadRational %.80q: %v %d", s, got, code)
		}
	}
	for s, want := range map[string]impl.Rational{
		"0": rational(0, 1), "7": rational(7, 1), "-7": rational(-7, 1), "-3/2": rational(-3, 2), "10/7": rational(10, 7), "1000000000000": rational(impl.MaxValue, 1), "-1000000000000": rational(-impl.MaxValue, 1),
		"1/1000000000000": rational(1, impl.MaxValue), "999999999999/1000000000000": rational(impl.MaxValue-1, impl.MaxValue),
	} {
		if got, code := impl.ReadRational(s); got != want || code != impl.ErrNone {
			t.Error("ReadRational", s, got, code)
		}
	}
}

// checkRationalText compares what is read from s with what a library for fractions reads that writes
// the same texts. It returns whether s is a text.
func checkRationalText(t *testing.T, s string) bool {
	t.Helper()
	want, wantCode := impl.Rational{}, int64(impl.ErrSyntax)
	if exact, ok := new(big.Rat).SetString(s); ok && exact.RatString() == s {
		if q, code := fitted(exact); code == impl.ErrNone {
			want, wantCode = q, impl.ErrNone
		}
	}
	if got, code := impl.ReadRational(s); got != want || code != wantCode {
		t.Fatalf("ReadRational %q: %v %d, not %v %d", s, got, code, want, wantCode)
	}
	return wantCode == impl.ErrNone
}

// TestPromise1AllShortRationalTexts takes every string of at most 6 letters.
func TestPromise1AllShortRationalTexts(t *testing.T) {
	const letters = "01236/-+"
	found := 0
	var check func(s string, more int)
	check = func(s string, more int) {
		if checkRationalText(t, s) {
			found++
		}
		for i := 0; i < len(letters) && more > 0; i++ {
			check(s+letters[i:i+1], more-1)
		}
	}
	check("", 6)
	if found < 10000 {
		t.Error("texts of at most 6 letters", found)
	}
}

// TestPromise1ChangedRationalTexts puts one other byte at each place of a text, leaves each byte out,
// and inserts one.
func TestPromise1ChangedRationalTexts(t *testing.T) {
	for _, s := range []string{"0", "-7", "12/35", "-3/2", "1000000000000", "-999999999999/1000000000000"} {
		for i := range len(s) {
			checkRationalText(t, s[:i]+s[i+1:])
			for b := range 256 {
				letter := string([]byte{byte(b)})
				checkRationalText(t, s[:i]+letter+s[i+1:])
				checkRationalText(t, s[:i]+letter+s[i:])
				checkRationalText(t, s+letter)
			}
		}
	}
}
