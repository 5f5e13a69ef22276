package tests

import (
	"math/big"
	"regexp"
	"slices"
	"strconv"
	"strings"
	"testing"

	"loop.example/g01000/impl"
)

// largestCoefficient and largestArgument bound the coefficients and the numbers to evaluate at.
const (
	largestCoefficient = 1000000
	largestArgument    = 1000
)

// shortPolynomials gives the valid polynomials with at most length coefficients in -reach..reach.
func shortPolynomials(length int, reach int64) [][]int64 {
	lists := [][]int64{nil}
	all := [][]int64{nil}
	for range length {
		longer := [][]int64{}
		for _, list := range lists {
			for n := -reach; n <= reach; n++ {
				next := append(slices.Clone(list), n)
				longer = append(longer, next)
				if n != 0 {
					all = append(all, next)
				}
			}
		}
		lists = longer
	}
	return all
}

// coefficientSteps gives a sequence of coefficients below a bound that repeats itself late.
func coefficientSteps(seed uint64) func(bound int64) int64 {
	state := seed
	return func(bound int64) int64 {
		state = state*6364136223846793005 + 1442695040888963407
		return int64(state>>33)%(2*bound-1) - bound + 1
	}
}

// widePolynomials gives polynomials of each degree whose coefficients are at the ends of the range,
// at most 1, or somewhere in between.
func widePolynomials() [][]int64 {
	ends := []int64{0, 1, -1, largestCoefficient, -largestCoefficient, largestCoefficient - 1, 999, -1000}
	list := [][]int64{}
	step := coefficientSteps(7)
	for length := 1; length <= impl.MaxDegree+1; length++ {
		for _, bound := range []int64{2, 2, 4, 40, 1000, 30000, largestCoefficient} {
			f := make([]int64, length)
			for i := range f {
				f[i] = step(bound)
			}
			if f[length-1] == 0 {
				f[length-1] = 1
			}
			list = append(list, f)
		}
		for _, last := range ends[1:] {
			f := make([]int64, length)
			for i := range f {
				f[i] = ends[(step(1000)+1000)%int64(len(ends))]
			}
			f[length-1] = last
			list = append(list, f, append(make([]int64, length-1), last))
		}
	}
	return list
}

// invalidPolynomials gives lists that miss each condition alone, and some that miss several.
func invalidPolynomials() [][]int64 {
	list := [][]int64{
		{0}, {0, 0}, {1, 0}, {-largestCoefficient, 0}, {0, 1, 0}, make([]int64, 8), make([]int64, 9), make([]int64, 10), append(repeated(1, 8), 0),
		repeated(1, 10), append(make([]int64, 9), 1), append(repeated(1, 9), 0), repeated(1, 11), repeated(1, 17), repeated(1, 100), repeated(0, 1000), repeated(largestCoefficient+1, 10),
	}
	for _, n := range append(notValues(), largestCoefficient+1, -largestCoefficient-1, impl.MaxValue, -impl.MaxValue, 1<<32, 1<<32+1, -1<<32) {
		list = append(list, []int64{n}, []int64{n, 1}, []int64{0, n}, []int64{1, n, 1}, []int64{n, n}, []int64{n, 0}, append(repeated(1, 8), n), append([]int64{n}, repeated(1, 8)...))
	}
	return list
}

// notArguments gives integers that are out of the range of arguments and shifts.
func notArguments() []int64 {
	return append(notValues(), largestArgument+1, -largestArgument-1, impl.MaxValue, -impl.MaxValue, 1<<32, -1<<32, 1<<32+1)
}

// exactValue gives the value of a polynomial at x, term by term.
func exactValue(f []int64, x int64) *big.Int {
	value := new(big.Int)
	for i, n := range f {
		power := new(big.Int).Exp(big.NewInt(x), big.NewInt(int64(i)), nil)
		value.Add(value, power.Mul(power, big.NewInt(n)))
	}
	return value
}

// fittedValue gives an integer and ErrNone, or 0 and ErrLimit if it is no value.
func fittedValue(n *big.Int) (int64, int64) {
	if n.CmpAbs(big.NewInt(impl.MaxValue)) > 0 {
		return 0, impl.ErrLimit
	}
	return n.Int64(), impl.ErrNone
}

// fittedPolynomial gives the polynomial with these coefficients, or none and ErrLimit if it is not valid.
func fittedPolynomial(exact []*big.Int) ([]int64, int64) {
	for len(exact) > 0 && exact[len(exact)-1].Sign() == 0 {
		exact = exact[:len(exact)-1]
	}
	f := []int64{}
	for _, n := range exact {
		if n.CmpAbs(big.NewInt(largestCoefficient)) > 0 || len(f) > impl.MaxDegree {
			return nil, impl.ErrLimit
		}
		f = append(f, n.Int64())
	}
	return f, impl.ErrNone
}

// zeros gives as many integers 0.
func zeros(count int) []*big.Int {
	list := make([]*big.Int, count)
	for i := range list {
		list[i] = new(big.Int)
	}
	return list
}

func exactSum(f, g []int64) []*big.Int {
	sum := zeros(max(len(f), len(g)))
	for _, list := range [][]int64{f, g} {
		for i, n := range list {
			sum[i].Add(sum[i], big.NewInt(n))
		}
	}
	return sum
}

func exactProduct(f, g []int64) []*big.Int {
	product := zeros(len(f) + len(g))
	for i, a := range f {
		for j, b := range g {
			part := big.NewInt(a)
			product[i+j].Add(product[i+j], part.Mul(part, big.NewInt(b)))
		}
	}
	return product
}

// exactShift gives the coefficients of the polynomial with the argument x + a, by binomials.
func exactShift(f []int64, a int64) []*big.Int {
	shifted := zeros(len(f))
	for j, n := range f {
		for i := range j + 1 {
			part := new(big.Int).Binomial(int64(j), int64(i))
			part.Mul(part, new(big.Int).Exp(big.NewInt(a), big.NewInt(int64(j-i)), nil))
			shifted[i].Add(shifted[i], part.Mul(part, big.NewInt(n)))
		}
	}
	return shifted
}

// isResult tells whether a polynomial and a code are those that are wanted, and the polynomial is valid.
func isResult(got []int64, code int64, want []int64, wantCode int64) bool {
	return slices.Equal(got, want) && code == wantCode && impl.IsPolynomial(got)
}

func TestConstantsOfPolynomials(t *testing.T) {
	if impl.MaxDegree != 8 || impl.MaxCoefficient != 1000000 {
		t.Error("limits", impl.MaxDegree, impl.MaxCoefficient)
	}
}

func TestIsPolynomial(t *testing.T) {
	for _, f := range slices.Concat(shortPolynomials(4, 2), widePolynomials()) {
		if !impl.IsPolynomial(f) {
			t.Fatal("IsPolynomial", f)
		}
	}
	for _, f := range [][]int64{nil, {}, {1}, {-1}, {largestCoefficient}, {-largestCoefficient}, {0, 1}, repeated(1, 9), append(make([]int64, 8), 1), repeated(largestCoefficient, 9), repeated(-largestCoefficient, 9)} {
		if !impl.IsPolynomial(f) {
			t.Error("IsPolynomial", f)
		}
	}
	for _, f := range invalidPolynomials() {
		if impl.IsPolynomial(f) {
			t.Error("IsPolynomial", f)
		}
	}
}

// TestSumsAndProductsOfPolynomialsAreExact also takes sums whose leading terms cancel, and results
// that are just too great.
func TestSumsAndProductsOfPolynomialsAreExact(t *testing.T) {
	list := slices.Concat(shortPolynomials(3, 2), widePolynomials())
	codes := map[int64]int{}
	for _, f := range list {
		for _, g := range list {
			want, wantCode := fittedPolynomial(exactSum(f, g))
			if got, code := impl.AddPolynomials(f, g); !isResult(got, code, want, wantCode) {
				t.Fatal("AddPolynomials", f, g, got, code, want, wantCode)
			}
			want, wantCode = fittedPolynomial(exactProduct(f, g))
			if got, code := impl.MultiplyPolynomials(f, g); !isResult(got, code, want, wantCode) {
				t.Fatal("MultiplyPolynomials", f, g, got, code, want, wantCode)
			}
			codes[wantCode]++
		}
	}
	if codes[impl.ErrNone] < 10000 || codes[impl.ErrLimit] < 10000 {
		t.Error("codes of products", codes)
	}
}

// TestPromise7ValuesOfSumsAndProducts evaluates both polynomials and the results.
func TestPromise7ValuesOfSumsAndProducts(t *testing.T) {
	list := slices.Concat(shortPolynomials(3, 1), widePolynomials())
	checked := 0
	for _, x := range []int64{0, 1, -1, 2, -3, 10, -31, largestArgument, -largestArgument} {
		for _, f := range list {
			for _, g := range list {
				a, codeA := impl.EvaluateAt(f, x)
				b, codeB := impl.EvaluateAt(g, x)
				if codeA != impl.ErrNone || codeB != impl.ErrNone {
					continue
				}
				sum, code := impl.AddPolynomials(f, g)
				want, wantCode := fittedValue(new(big.Int).Add(big.NewInt(a), big.NewInt(b)))
				if got, gotCode := impl.EvaluateAt(sum, x); code == impl.ErrNone && (got != want || gotCode != wantCode) {
					t.Fatal("value of a sum", f, g, x, sum, got, gotCode)
				}
				product, code := impl.MultiplyPolynomials(f, g)
				want, wantCode = fittedValue(new(big.Int).Mul(big.NewInt(a), big.NewInt(b)))
				if got, gotCode := impl.EvaluateAt(product, x); code == impl.ErrNone {
					checked++
					if got != want || gotCode != wantCode {
						t.Fatal("value of a product", f, g, x, product, got, gotCode)
					}
				}
			}
		}
	}
	if checked < 10000 {
		t.Error("products that were checked", checked)
	}
}

func TestAddPolynomials(t *testing.T) {
	const most = largestCoefficient
	for _, c := range []struct {
		f, g, want []int64
		code       int64
	}{
		{nil, nil, nil, impl.ErrNone}, {[]int64{}, nil, nil, impl.ErrNone}, {nil, []int64{3, 1}, []int64{3, 1}, impl.ErrNone}, {[]int64{}, []int64{-most}, []int64{-most}, impl.ErrNone},
		{[]int64{1, 2}, []int64{0, -2}, []int64{1}, impl.ErrNone}, {[]int64{1, 2, 3}, []int64{0, 2, -3}, []int64{1, 4}, impl.ErrNone}, {[]int64{1, 2, 3}, []int64{1, -2, -3}, []int64{2}, impl.ErrNone}, {[]int64{1, 2, 3}, []int64{-1, -2, -3}, nil, impl.ErrNone},
		{[]int64{0, 0, 3}, []int64{0, 0, -3}, nil, impl.ErrNone}, {[]int64{0, 5, 0, 3}, []int64{0, 0, 0, -3}, []int64{0, 5}, impl.ErrNone}, {[]int64{5}, []int64{-5}, nil, impl.ErrNone},
		{repeated(1, 9), repeated(-1, 9), nil, impl.ErrNone}, {repeated(1, 9), append(repeated(2, 8), -1), repeated(3, 8), impl.ErrNone}, {repeated(1, 9), repeated(2, 2), []int64{3, 3, 1, 1, 1, 1, 1, 1, 1}, impl.ErrNone},
		{[]int64{most - 1}, []int64{1}, []int64{most}, impl.ErrNone}, {[]int64{most}, []int64{1}, nil, impl.ErrLimit}, {[]int64{-most}, []int64{-1}, nil, impl.ErrLimit}, {[]int64{-most}, []int64{1}, []int64{1 - most}, impl.ErrNone},
		{[]int64{most}, []int64{most}, nil, impl.ErrLimit}, {[]int64{most}, []int64{-most}, nil, impl.ErrNone}, {[]int64{most, 1}, []int64{1, -1}, nil, impl.ErrLimit}, {[]int64{0, most, 1}, []int64{0, 1, 1}, nil, impl.ErrLimit}, {[]int64{0, -most, 1}, []int64{0, -1, 1}, nil, impl.ErrLimit},
		{append(make([]int64, 8), most), append(make([]int64, 8), 1), nil, impl.ErrLimit}, {append(make([]int64, 8), most), []int64{1}, []int64{1, 0, 0, 0, 0, 0, 0, 0, most}, impl.ErrNone},
	} {
		for _, pair := range [][2][]int64{{c.f, c.g}, {c.g, c.f}} {
			if got, code := impl.AddPolynomials(pair[0], pair[1]); !isResult(got, code, c.want, c.code) {
				t.Error("AddPolynomials", pair, got, code, c.want)
			}
		}
	}
}

func TestMultiplyPolynomials(t *testing.T) {
	const most = largestCoefficient
	for _, c := range []struct {
		f, g, want []int64
		code       int64
	}{
		{nil, nil, nil, impl.ErrNone}, {[]int64{}, []int64{most}, nil, impl.ErrNone}, {nil, repeated(most, 9), nil, impl.ErrNone}, {[]int64{1}, repeated(most, 9), repeated(most, 9), impl.ErrNone}, {[]int64{-1}, repeated(most, 9), repeated(-most, 9), impl.ErrNone},
		{[]int64{1, 1}, []int64{-1, 1}, []int64{-1, 0, 1}, impl.ErrNone}, {[]int64{0, 1}, []int64{0, 0, 1}, []int64{0, 0, 0, 1}, impl.ErrNone}, {[]int64{2}, []int64{3}, []int64{6}, impl.ErrNone},
		// Degrees 8 and 9.
		{repeated(1, 5), repeated(1, 5), []int64{1, 2, 3, 4, 5, 4, 3, 2, 1}, impl.ErrNone}, {repeated(1, 5), repeated(1, 6), nil, impl.ErrLimit}, {repeated(1, 9), repeated(1, 2), nil, impl.ErrLimit}, {append(make([]int64, 8), 1), []int64{0, 1}, nil, impl.ErrLimit},
		{repeated(1, 9), repeated(1, 9), nil, impl.ErrLimit}, {[]int64{0, 1}, append(make([]int64, 7), 1), append(make([]int64, 8), 1), impl.ErrNone},
		// Coefficients at the limit and beyond it.
		{[]int64{1000}, []int64{1000}, []int64{most}, impl.ErrNone}, {[]int64{1000}, []int64{-1000}, []int64{-most}, impl.ErrNone}, {[]int64{1001}, []int64{999}, []int64{most - 1}, impl.ErrNone}, {[]int64{1000}, []int64{1001}, nil, impl.ErrLimit}, {[]int64{-1000}, []int64{1001}, nil, impl.ErrLimit},
		{[]int64{101}, []int64{9901}, nil, impl.ErrLimit}, {[]int64{-101}, []int64{9901}, nil, impl.ErrLimit}, {[]int64{most}, []int64{2}, nil, impl.ErrLimit}, {[]int64{most}, []int64{most}, nil, impl.ErrLimit}, {[]int64{2, 1}, []int64{most, 1}, nil, impl.ErrLimit},
		{[]int64{1, 500000}, []int64{1, 500000}, nil, impl.ErrLimit}, {[]int64{1, 1}, []int64{500000, 500000}, []int64{500000, most, 500000}, impl.ErrNone}, {[]int64{1, 1}, []int64{500001, 500000}, nil, impl.ErrLimit},
		// A coefficient is greater than the limit only before all its parts are added.
		{[]int64{1, 1000, 1}, []int64{-1, 1000, 1}, []int64{-1, 0, most, 2000, 1}, impl.ErrNone}, {[]int64{most, 1}, []int64{most, -1}, nil, impl.ErrLimit}, {[]int64{1, 0, most}, []int64{2, 1}, nil, impl.ErrLimit},
	} {
		for _, pair := range [][2][]int64{{c.f, c.g}, {c.g, c.f}} {
			if got, code := impl.MultiplyPolynomials(pair[0], pair[1]); !isResult(got, code, c.want, c.code) {
				t.Error("MultiplyPolynomials", pair, got, code, c.want)
			}
		}
	}
}

func TestErrorsOfSumsAndProductsOfPolynomials(t *testing.T) {
	for _, f := range invalidPolynomials() {
		for _, g := range [][]int64{nil, {1}, {0, 1}, repeated(1, 9), repeated(largestCoefficient, 9), f, {0}} {
			for _, pair := range [][2][]int64{{f, g}, {g, f}} {
				sum, code := impl.AddPolynomials(pair[0], pair[1])
				product, two := impl.MultiplyPolynomials(pair[0], pair[1])
				if len(sum) != 0 || len(product) != 0 || code != impl.ErrInvalid || two != impl.ErrInvalid {
					t.Fatal("AddPolynomials and MultiplyPolynomials", pair, sum, code, product, two)
				}
			}
		}
	}
}

// TestEvaluateAtIsExact takes also arguments whose powers are 0 by the power of 2 that the numbers of
// a machine have.
func TestEvaluateAtIsExact(t *testing.T) {
	arguments := []int64{999, 1000, 256, 512, 768, 100, 101, 500, 750, 31, 32}
	for x := range int64(24) {
		arguments = append(arguments, x)
	}
	codes := map[int64]int{}
	for _, f := range slices.Concat(shortPolynomials(3, 2), widePolynomials()) {
		for _, x := range arguments {
			for _, signed := range []int64{x, -x} {
				want, wantCode := fittedValue(exactValue(f, signed))
				if got, code := impl.EvaluateAt(f, signed); got != want || code != wantCode {
					t.Fatal("EvaluateAt", f, signed, got, code, want, wantCode)
				}
				codes[wantCode]++
			}
		}
	}
	if codes[impl.ErrNone] < 1000 || codes[impl.ErrLimit] < 1000 {
		t.Error("codes of EvaluateAt", codes)
	}
}

func TestEvaluateAt(t *testing.T) {
	const most = largestCoefficient
	for _, c := range []struct {
		f       []int64
		x, want int64
		code    int64
	}{
		{nil, 0, 0, impl.ErrNone}, {[]int64{}, 1000, 0, impl.ErrNone}, {nil, -1000, 0, impl.ErrNone}, {[]int64{5}, 1000, 5, impl.ErrNone}, {[]int64{-5}, 0, -5, impl.ErrNone}, {[]int64{-2, 0, 1}, 3, 7, impl.ErrNone}, {[]int64{-2, 0, 1}, -3, 7, impl.ErrNone},
		{[]int64{0, 1}, 1000, 1000, impl.ErrNone}, {[]int64{0, 1}, -1000, -1000, impl.ErrNone}, {repeated(most, 9), 0, most, impl.ErrNone}, {repeated(most, 9), 1, 9 * most, impl.ErrNone}, {repeated(most, 9), -1, most, impl.ErrNone}, {repeated(-most, 9), 1, -9 * most, impl.ErrNone},
		// The greatest value and one beyond.
		{[]int64{0, 0, 0, 0, 1}, 1000, impl.MaxValue, impl.ErrNone}, {[]int64{0, 0, 0, 0, 1}, -1000, impl.MaxValue, impl.ErrNone}, {[]int64{0, 0, 0, 0, -1}, 1000, -impl.MaxValue, impl.ErrNone}, {[]int64{1, 0, 0, 0, 1}, 1000, 0, impl.ErrLimit}, {[]int64{-1, 0, 0, 0, -1}, 1000, 0, impl.ErrLimit},
		{[]int64{-1, 0, 0, 0, 1}, 1000, impl.MaxValue - 1, impl.ErrNone}, {[]int64{1, 0, 0, 0, -1}, -1000, 1 - impl.MaxValue, impl.ErrNone}, {[]int64{0, 0, most}, 1000, impl.MaxValue, impl.ErrNone}, {[]int64{0, 0, -most}, -1000, -impl.MaxValue, impl.ErrNone}, {[]int64{1, 0, most}, 1000, 0, impl.ErrLimit}, {[]int64{0, 1, most}, 1000, 0, impl.ErrLimit},
		{[]int64{0, -1, most}, 1000, impl.MaxValue - 1000, impl.ErrNone}, {[]int64{0, 0, -1000, 1}, 1000, 0, impl.ErrNone}, {[]int64{0, 0, 0, 0, 0, 0, 0, -1000, 1}, 1000, 0, impl.ErrNone}, {[]int64{7, 0, 0, 0, 0, 0, 0, 1000, 1}, -1000, 7, impl.ErrNone},
		// Beyond 64 bits, where the powers of 256 and 512 would be 0.
		{append(make([]int64, 8), 1), 256, 0, impl.ErrLimit}, {append(make([]int64, 8), 1), -512, 0, impl.ErrLimit}, {append([]int64{5}, append(make([]int64, 7), most)...), 1000, 0, impl.ErrLimit}, {append(make([]int64, 8), -most), -1000, 0, impl.ErrLimit}, {repeated(most, 9), 1000, 0, impl.ErrLimit},
	} {
		if got, code := impl.EvaluateAt(c.f, c.x); got != c.want || code != c.code {
			t.Error("EvaluateAt", c, got, code)
		}
	}
}

// TestArgumentErrors gives invalid polynomials also with arguments that are out of range, and these
// also where the result would be beyond the limit.
func TestArgumentErrors(t *testing.T) {
	check := func(f []int64, a, want int64) {
		t.Helper()
		value, code := impl.EvaluateAt(f, a)
		shifted, two := impl.ShiftPolynomial(f, a)
		if value != 0 || len(shifted) != 0 || code != want || two != want {
			t.Fatal("EvaluateAt and ShiftPolynomial", f, a, value, code, shifted, two)
		}
	}
	for _, f := range invalidPolynomials() {
		for _, a := range append(notArguments(), 0, 1, -1000, 1000) {
			check(f, a, impl.ErrInvalid)
		}
	}
	for _, f := range append(widePolynomials(), nil, []int64{1}, []int64{0, 1}) {
		for _, a := range notArguments() {
			check(f, a, impl.ErrRange)
		}
	}
}

func TestDerivativeOfIsExact(t *testing.T) {
	codes := map[int64]int{}
	for _, f := range slices.Concat(shortPolynomials(4, 2), widePolynomials()) {
		exact := zeros(len(f))
		for i := 1; i < len(f); i++ {
			exact[i-1].SetInt64(f[i])
			exact[i-1].Mul(exact[i-1], big.NewInt(int64(i)))
		}
		want, wantCode := fittedPolynomial(exact)
		if got, code := impl.DerivativeOf(f); !isResult(got, code, want, wantCode) {
			t.Fatal("DerivativeOf", f, got, code, want, wantCode)
		}
		codes[wantCode]++
	}
	if codes[impl.ErrNone] < 100 || codes[impl.ErrLimit] < 30 {
		t.Error("codes of DerivativeOf", codes)
	}
}

func TestDerivativeOf(t *testing.T) {
	const most = largestCoefficient
	for _, c := range []struct {
		f, want []int64
		code    int64
	}{
		{nil, nil, impl.ErrNone}, {[]int64{}, nil, impl.ErrNone}, {[]int64{1}, nil, impl.ErrNone}, {[]int64{-most}, nil, impl.ErrNone}, {[]int64{3, 5}, []int64{5}, impl.ErrNone}, {[]int64{-2, 0, 1}, []int64{0, 2}, impl.ErrNone},
		{[]int64{0, most}, []int64{most}, impl.ErrNone}, {[]int64{0, 0, 500000}, []int64{0, most}, impl.ErrNone}, {[]int64{0, 0, -500000}, []int64{0, -most}, impl.ErrNone}, {[]int64{0, 0, 500001}, nil, impl.ErrLimit}, {[]int64{0, 0, -500001}, nil, impl.ErrLimit},
		{[]int64{0, 0, 0, 333333}, []int64{0, 0, 999999}, impl.ErrNone}, {[]int64{0, 0, 0, 333334}, nil, impl.ErrLimit}, {[]int64{0, 0, 333334, 0, 1}, []int64{0, 666668, 0, 4}, impl.ErrNone}, {[]int64{0, 0, 0, 333334, 1}, nil, impl.ErrLimit}, {[]int64{most, most, most, 1}, nil, impl.ErrLimit},
		{append(repeated(1, 8), 125000), []int64{1, 2, 3, 4, 5, 6, 7, most}, impl.ErrNone}, {append(repeated(1, 8), -125000), []int64{1, 2, 3, 4, 5, 6, 7, -most}, impl.ErrNone}, {append(repeated(1, 8), 125001), nil, impl.ErrLimit}, {repeated(most, 9), nil, impl.ErrLimit},
	} {
		if got, code := impl.DerivativeOf(c.f); !isResult(got, code, c.want, c.code) {
			t.Error("DerivativeOf", c, got, code)
		}
	}
}

func TestContentOf(t *testing.T) {
	for _, f := range slices.Concat(shortPolynomials(3, 6), widePolynomials()) {
		exact := new(big.Int)
		for _, n := range f {
			exact.GCD(nil, nil, exact, new(big.Int).Abs(big.NewInt(n)))
		}
		if got, code := impl.ContentOf(f); got != exact.Int64() || code != impl.ErrNone {
			t.Fatal("ContentOf", f, got, code, exact)
		}
	}
	for _, c := range []struct {
		f    []int64
		want int64
	}{
		{nil, 0}, {[]int64{}, 0}, {[]int64{1}, 1}, {[]int64{-1}, 1}, {[]int64{-7}, 7}, {[]int64{4, 6}, 2}, {[]int64{-4, -6}, 2}, {[]int64{4, -6}, 2}, {[]int64{0, 0, -9}, 9}, {[]int64{6, 10, 15}, 1}, {[]int64{12, 0, -18, 0, 30}, 6},
		{[]int64{largestCoefficient}, largestCoefficient}, {repeated(-largestCoefficient, 9), largestCoefficient}, {[]int64{0, -largestCoefficient, 0, 64}, 64},
	} {
		if got, code := impl.ContentOf(c.f); got != c.want || code != impl.ErrNone {
			t.Error("ContentOf", c, got, code)
		}
	}
}

func TestShiftPolynomialIsExact(t *testing.T) {
	shifts := []int64{32, 100, 256, 500, 512, 577, 999, 1000}
	for a := range int64(13) {
		shifts = append(shifts, a)
	}
	list := slices.Concat(shortPolynomials(4, 2), widePolynomials(), [][]int64{{999999, -999999, -999999, 666666}, {-250000, 750000, 500000, 250000, -750000, 250000}})
	codes := map[int64]int{}
	for _, f := range list {
		for _, a := range shifts {
			for _, signed := range []int64{a, -a} {
				want, wantCode := fittedPolynomial(exactShift(f, signed))
				got, code := impl.ShiftPolynomial(f, signed)
				if !isResult(got, code, want, wantCode) {
					t.Fatal("ShiftPolynomial", f, signed, got, code, want, wantCode)
				}
				if back, _ := impl.ShiftPolynomial(got, -signed); code == impl.ErrNone && !slices.Equal(back, f) {
					t.Fatal("ShiftPolynomial back", f, signed, got, back)
				}
				codes[wantCode]++
			}
		}
	}
	if codes[impl.ErrNone] < 1000 || codes[impl.ErrLimit] < 1000 {
		t.Error("codes of ShiftPolynomial", codes)
	}
}

func TestShiftPolynomial(t *testing.T) {
	const most = largestCoefficient
	for _, c := range []struct {
		f    []int64
		a    int64
		want []int64
		code int64
	}{
		{nil, 0, nil, impl.ErrNone}, {[]int64{}, 1000, nil, impl.ErrNone}, {nil, -1000, nil, impl.ErrNone}, {[]int64{-most}, 1000, []int64{-most}, impl.ErrNone}, {[]int64{most}, -1000, []int64{most}, impl.ErrNone}, {repeated(most, 9), 0, repeated(most, 9), impl.ErrNone},
		{[]int64{0, 1}, 1000, []int64{1000, 1}, impl.ErrNone}, {[]int64{0, 1}, -1000, []int64{-1000, 1}, impl.ErrNone}, {[]int64{1000, 1}, -1000, []int64{0, 1}, impl.ErrNone}, {[]int64{0, 0, 1}, 1, []int64{1, 2, 1}, impl.ErrNone}, {[]int64{0, 0, 1}, -1, []int64{1, -2, 1}, impl.ErrNone}, {[]int64{1, 2, 1}, -1, []int64{0, 0, 1}, impl.ErrNone},
		{append(make([]int64, 8), 1), 1, []int64{1, 8, 28, 56, 70, 56, 28, 8, 1}, impl.ErrNone}, {append(make([]int64, 8), -1), -1, []int64{-1, 8, -28, 56, -70, 56, -28, 8, -1}, impl.ErrNone},
		// Coefficients at the limit and beyond it.
		{[]int64{0, 1000}, 1000, []int64{most, 1000}, impl.ErrNone}, {[]int64{1, 1000}, 1000, nil, impl.ErrLimit}, {[]int64{0, 1000}, -1000, []int64{-most, 1000}, impl.ErrNone}, {[]int64{-1, 1000}, -1000, nil, impl.ErrLimit}, {[]int64{0, 0, 1}, 1000, []int64{most, 2000, 1}, impl.ErrNone}, {[]int64{1, 0, 1}, -1000, nil, impl.ErrLimit}, {[]int64{-1, 0, 1}, -1000, []int64{most - 1, -2000, 1}, impl.ErrNone},
		{[]int64{0, most, 1}, -1000, nil, impl.ErrLimit}, {[]int64{-most, most}, 1, []int64{0, most}, impl.ErrNone}, {[]int64{1, most}, 1, nil, impl.ErrLimit}, {[]int64{0, 999999, 1}, -1, []int64{-999998, 999997, 1}, impl.ErrNone}, {[]int64{0, 999999, 1}, 1, nil, impl.ErrLimit}, {[]int64{0, 999998, 1}, 1, []int64{999999, most, 1}, impl.ErrNone},
		{append(make([]int64, 8), 14285), 1, []int64{14285, 114280, 399980, 799960, 999950, 799960, 399980, 114280, 14285}, impl.ErrNone}, {append(make([]int64, 8), 14286), 1, nil, impl.ErrLimit}, {append(make([]int64, 8), 1), 256, nil, impl.ErrLimit}, {append(make([]int64, 8), most), 1000, nil, impl.ErrLimit}, {repeated(-most, 9), -1000, nil, impl.ErrLimit},
		// The steps of a division by x - 1 or x + 1 exceed the limit, but the result does not.
		{[]int64{999999, -999999, -999999, 666666}, 1, []int64{-333333, -999999, 999999, 666666}, impl.ErrNone}, {[]int64{999999, 999999, -999999, -666666}, -1, []int64{-333333, 999999, 999999, -666666}, impl.ErrNone},
	} {
		if got, code := impl.ShiftPolynomial(c.f, c.a); !isResult(got, code, c.want, c.code) {
			t.Error("ShiftPolynomial", c, got, code)
		}
	}
}

func TestReversePolynomial(t *testing.T) {
	for _, f := range slices.Concat(shortPolynomials(5, 1), widePolynomials()) {
		want := slices.Clone(f)
		for len(want) > 0 && want[0] == 0 {
			want = want[1:]
		}
		slices.Reverse(want)
		if got, code := impl.ReversePolynomial(f); !isResult(got, code, want, impl.ErrNone) {
			t.Fatal("ReversePolynomial", f, got, code)
		}
	}
	for _, c := range []struct{ f, want []int64 }{
		{nil, nil}, {[]int64{}, nil}, {[]int64{-3}, []int64{-3}}, {[]int64{1, 2}, []int64{2, 1}}, {[]int64{0, 2}, []int64{2}}, {[]int64{0, 0, 0, 5, 0, -7}, []int64{-7, 0, 5}}, {append(make([]int64, 8), 4), []int64{4}}, {[]int64{4, 0, 0, 0, 0, 0, 0, 0, 1}, []int64{1, 0, 0, 0, 0, 0, 0, 0, 4}},
		{[]int64{1, 2, 3, 4, 5, 6, 7, 8, 9}, []int64{9, 8, 7, 6, 5, 4, 3, 2, 1}}, {[]int64{largestCoefficient, -largestCoefficient}, []int64{-largestCoefficient, largestCoefficient}},
	} {
		if got, code := impl.ReversePolynomial(c.f); !isResult(got, code, c.want, impl.ErrNone) {
			t.Error("ReversePolynomial", c, got, code)
		}
	}
}

func TestInvalidPolynomials(t *testing.T) {
	for _, f := range invalidPolynomials() {
		derivative, code := impl.DerivativeOf(f)
		content, two := impl.ContentOf(f)
		reversed, three := impl.ReversePolynomial(f)
		text, four := impl.PolynomialText(f)
		if len(derivative) != 0 || content != 0 || len(reversed) != 0 || text != "" {
			t.Error("results for", f, derivative, content, reversed, text)
		}
		if code != impl.ErrInvalid || two != impl.ErrInvalid || three != impl.ErrInvalid || four != impl.ErrInvalid {
			t.Error("codes for", f, code, two, three, four)
		}
	}
}

// polynomialTexts gives texts and their polynomials.
func polynomialTexts() map[string][]int64 {
	return map[string][]int64{
		"0": nil, "1": {1}, "-1": {-1}, "10": {10}, "-97": {-97}, "1000000": {1000000}, "-1000000": {-1000000}, "x": {0, 1}, "-x": {0, -1}, "2x": {0, 2}, "-10x": {0, -10}, "1000000x": {0, 1000000}, "-1000000x": {0, -1000000},
		"x+1": {1, 1}, "x-1": {-1, 1}, "-x+1": {1, -1}, "-x-1": {-1, -1}, "11x+11": {11, 11}, "x^2": {0, 0, 1}, "-x^2": {0, 0, -1}, "x^2-2": {-2, 0, 1}, "x^2+x": {0, 1, 1}, "x^2-x-1": {-1, -1, 1}, "-x^3+2x-1": {-1, 2, 0, -1},
		"x^8": append(make([]int64, 8), 1), "-1000000x^8": append(make([]int64, 8), -1000000), "x^8+1": {1, 0, 0, 0, 0, 0, 0, 0, 1},
		"x^8+x^7+x^6+x^5+x^4+x^3+x^2+x+1": repeated(1, 9), "-x^8-x^7-x^6-x^5-x^4-x^3-x^2-x-1": repeated(-1, 9), "2x^8-3x^7+4x^6-5x^5+6x^4-7x^3+8x^2-9x+10": {10, -9, 8, -7, 6, -5, 4, -3, 2},
	}
}

func TestPolynomialText(t *testing.T) {
	for want, f := range polynomialTexts() {
		if got, code := impl.PolynomialText(f); got != want || code != impl.ErrNone {
			t.Error("PolynomialText", f, got, code, want)
		}
		if got, code := impl.ReadPolynomial(want); !isResult(got, code, f, impl.ErrNone) {
			t.Error("ReadPolynomial", want, got, code)
		}
	}
	if got, code := impl.PolynomialText([]int64{}); got != "0" || code != impl.ErrNone {
		t.Error("PolynomialText of the empty list", got, code)
	}
}

// strictText is the form of a text with at least one term, and strictTerm that of a term.
var (
	strictText = regexp.MustCompile(`^-?(([2-9]|[1-9][0-9]{1,6})?x(\^[2-8])?|[1-9][0-9]{0,6})([+-](([2-9]|[1-9][0-9]{1,6})?x(\^[2-8])?|[1-9][0-9]{0,6}))*$`)
	strictTerm = regexp.MustCompile(`([+-]?)([0-9]*)(x?)(?:\^([0-9]))?`)
)

// readStrictly gives the polynomial with the text s, by the form of texts, and whether there is one.
func readStrictly(s string) ([]int64, bool) {
	if s == "0" {
		return nil, true
	}
	if !strictText.MatchString(s) {
		return nil, false
	}
	f := make([]int64, 9)
	last := int64(9)
	for _, parts := range strictTerm.FindAllStringSubmatch(s, -1) {
		if parts[0] == "" {
			continue
		}
		number, power := int64(1), int64(len(parts[3]))
		if parts[2] != "" {
			number, _ = strconv.ParseInt(parts[2], 10, 64)
		}
		if parts[4] != "" {
			power, _ = strconv.ParseInt(parts[4], 10, 64)
		}
		if power >= last || number > largestCoefficient {
			return nil, false
		}
		if parts[1] == "-" {
			number = -number
		}
		f[power], last = number, power
	}
	for f[len(f)-1] == 0 {
		f = f[:len(f)-1]
	}
	return f, true
}

// checkPolynomialText compares what is read from s with what the form of texts says. It returns
// whether s is a text.
func checkPolynomialText(t *testing.T, s string) bool {
	t.Helper()
	want, isText := readStrictly(s)
	wantCode := int64(impl.ErrSyntax)
	if isText {
		wantCode = impl.ErrNone
	}
	if got, code := impl.ReadPolynomial(s); !slices.Equal(got, want) || code != wantCode {
		t.Fatalf("ReadPolynomial %.80q: %v %d, not %v %d", s, got, code, want, wantCode)
	}
	return isText
}

func TestPromise1PolynomialsRecovered(t *testing.T) {
	for _, f := range slices.Concat(shortPolynomials(5, 2), shortPolynomials(3, 11), widePolynomials()) {
		s, code := impl.PolynomialText(f)
		if code != impl.ErrNone {
			t.Fatal("PolynomialText", f, s, code)
		}
		if got, code := impl.ReadPolynomial(s); !isResult(got, code, f, impl.ErrNone) {
			t.Fatal("ReadPolynomial", f, s, got, code)
		}
		if got, isText := readStrictly(s); !isText || !slices.Equal(got, f) {
			t.Fatal("PolynomialText", f, s, got)
		}
	}
}

func TestPromise1OnlyPolynomialTextsAreRead(t *testing.T) {
	for _, s := range []string{
		// Parts are missing or superfluous.
		"", "+", "-", "^", "^2", "x^", "-x^", "2x^", "x^+", "x^-", "x^^2", "x^2^", "x^2^2", "x2", "2x3", "x^2x", "xx", "x2x", "x+", "x-", "x^2+", "1+", "1-", "+-", "-+", "++", "--", "x++1", "x--1", "x+-1", "x-+1", "--x", "+-x", "-+x", "x+1+", "2^2", "2^x", "x^x", "^x",
		// A plus sign in front, and signs at other places.
		"+0", "-0", "+1", "+x", "+x+1", "+2x", "+x^2-2", "x^+2", "x^-2", "x^-1", "x^2-+2", "-+2", "1-x^-1", "x-", "2-x+",
		// Superfluous zeros.
		"00", "01", "-01", "007", "02x", "x^02", "x^2-02", "x^2+01", "x+00", "01x", "00x", "x^08", "-02x^2",
		// A coefficient 1 that is written out.
		"1x", "-1x", "1x^2", "-1x^2", "1x+1", "x^2+1x", "x^2-1x", "x^2-1x-1", "1x^8", "+1x",
		// The powers 1 and 0.
		"x^1", "2x^1", "-x^1", "x^1+1", "x^2+x^1", "x^0", "2x^0", "-x^0", "x+x^0", "x+2x^0", "1x^0", "0x^0",
		// Another order, and a power twice.
		"1+x", "-1+x", "-2+x^2", "x+x^2", "1+x+x^2", "x^2+1+x", "2x-x^3-1", "x^2+x^3", "x+x", "x-x", "2x+3x", "x^2+x^2", "x^2-x^2", "1+1", "1-1", "2+3", "x+1+1", "x^2+x+x^2", "x+0+x", "x^8+x^8",
		// The coefficient 0.
		"0x", "-0x", "0x^2", "0x^8", "x+0", "x-0", "x^2+0x", "x^2+0x-2", "x^2-0x-2", "0+1", "0+x", "x^2+0", "0-1", "0+0", "0x+0", "0x^2+x",
		// Powers and coefficients that are too great.
		"x^9", "-x^9", "x^9+1", "x^10", "x^18", "x^80", "x^88", "x^100", "x^256", "x^264", "0x^9", "1-x^9", "x^9-x^9", "x^4294967296", "x^4294967298", "x^9223372036854775807", "x^9223372036854775808", "x^18446744073709551616", "x^18446744073709551618",
		"1000001", "-1000001", "1000001x", "-1000001x", "1000001x^8", "x+1000001", "x-1000001", "x^2+1000001x+1", "10000000", "1000000000000", "4294967296", "4294967297x", "9223372036854775807", "-9223372036854775808", "9223372036854775808", "18446744073709551617", "18446744073709551617x", "x+18446744073709551617", "1000000x+1000001",
		// Blanks, other notations and other characters.
		" ", " x", "x ", "x +1", "x+ 1", "x + 1", "- x", "2 x", "x ^2", "x^ 2", " x^2-2", "x^2-2 ", "x^2-2\n", "\nx", "x\x00", "\x00", "\tx", "2*x", "x*2", "x*x", "x2+1", "x**2", "x^{2}", "x^(2)", "(x)", "(x+1)", "x^2-2=0", "[1]", "X", "X^2", "y", "t^2", "2y", "3a", "a", "x_1", "x²", "х", "−x", "x–1", "x^2−2", "１", "x^２", "1_0", "1_0x", "x^1_0",
		"0x2", "0x1", "1.0", "1.5x", ".5", "1,2", "1/2", "x/2", "x^2.0", "1e3", "1e3x", "x^1e0", "inf", "NaN", "nil", "null", "\xff", "x\xff", "x^\xff", "x+\xff",
		strings.Repeat("1", 100000), strings.Repeat("0", 100000), strings.Repeat("0", 100000) + "x", strings.Repeat("-", 100000), strings.Repeat("x", 100000), strings.Repeat("^", 100000), strings.Repeat("x+", 100000) + "1", strings.Repeat("x^8-", 100000) + "1", "x^" + strings.Repeat("0", 100000) + "2",
	} {
		if got, code := impl.ReadPolynomial(s); len(got) != 0 || code != impl.ErrSyntax {
			t.Errorf("ReadPolynomial %.80q: %v %d", s, got, code)
		}
	}
}

// TestPromise1AllShortPolynomialTexts takes every string of at most 6 letters.
func TestPromise1AllShortPolynomialTexts(t *testing.T) {
	const letters = "0128x^+-"
	found := 0
	var check func(s string, more int)
	check = func(s string, more int) {
		if checkPolynomialText(t, s) {
			found++
		}
		for i := 0; i < len(letters) && more > 0; i++ {
			check(s+letters[i:i+1], more-1)
		}
	}
	check("", 6)
	if found < 3000 {
		t.Error("texts of at most 6 letters", found)
	}
}

// TestPromise1ChangedPolynomialTexts puts one other byte at each place of a text, leaves each byte
// out, and inserts one.
func TestPromise1ChangedPolynomialTexts(t *testing.T) {
	for s := range polynomialTexts() {
		for i := range len(s) {
			checkPolynomialText(t, s[:i]+s[i+1:])
			for b := range 256 {
				letter := string([]byte{byte(b)})
				checkPolynomialText(t, s[:i]+letter+s[i+1:])
				checkPolynomialText(t, s[:i]+letter+s[i:])
				checkPolynomialText(t, s+letter)
			}
		}
	}
}

// spare gives a copy of a list with other numbers in its spare capacity, and the whole copy.
func spare(f []int64) (list []int64, whole []int64) {
	whole = slices.Concat(f, []int64{71, 72, 73, 74, 75, 76, 77, 78, 79, 80})
	return whole[:len(f)], whole
}

// overwrite changes all numbers of a result and of its spare capacity.
func overwrite(result []int64) {
	for i := range result[:cap(result)] {
		result[:cap(result)][i] = 99
	}
}

// TestPolynomialsShareNoMemory overwrites results of steps that change nothing, among others.
func TestPolynomialsShareNoMemory(t *testing.T) {
	for _, f := range [][]int64{nil, {5}, {1, 2, 1}, {0, 0, 3}, {7, 8, 9}, repeated(2, 9), {1, 1000, 500000}} {
		first, wholeFirst := spare(f)
		before := slices.Clone(wholeFirst)
		for _, g := range [][]int64{nil, {1}, {0, 1}, {1, -2, -1}, {-1, -2, -1}} {
			second, wholeSecond := spare(g)
			beforeSecond := slices.Clone(wholeSecond)
			for _, pair := range [][2][]int64{{first, second}, {second, first}, {first, first}} {
				sum, _ := impl.AddPolynomials(pair[0], pair[1])
				overwrite(sum)
				product, _ := impl.MultiplyPolynomials(pair[0], pair[1])
				overwrite(product)
			}
			if !slices.Equal(wholeFirst, before) || !slices.Equal(wholeSecond, beforeSecond) {
				t.Fatal("sums and products", wholeFirst, before, wholeSecond, beforeSecond)
			}
		}
		for _, a := range []int64{0, 1, -1000} {
			shifted, _ := impl.ShiftPolynomial(first, a)
			overwrite(shifted)
			impl.EvaluateAt(first, a)
		}
		derivative, _ := impl.DerivativeOf(first)
		overwrite(derivative)
		reversed, _ := impl.ReversePolynomial(first)
		overwrite(reversed)
		impl.IsPolynomial(first)
		impl.ContentOf(first)
		impl.PolynomialText(first)
		if !slices.Equal(wholeFirst, before) {
			t.Fatal("an argument was changed", wholeFirst, before)
		}
	}
	read, _ := impl.ReadPolynomial("x^2-2")
	overwrite(read)
	if again, _ := impl.ReadPolynomial("x^2-2"); !slices.Equal(again, []int64{-2, 0, 1}) {
		t.Error("ReadPolynomial keeps its result", again)
	}
}
