package tests

import (
	"math/big"
	"math/bits"
	"slices"
	"testing"

	"loop.example/g01000/impl"
)

// smallDegree and smallCoefficient bound the degrees and the coefficients of small polynomials.
const (
	smallDegree      = 4
	smallCoefficient = 60
)

// coefficientsWithin gives a list of coefficients of which the last one is not 0.
func coefficientsWithin(step func(bound int64) int64, length int, bound int64) []int64 {
	f := make([]int64, length)
	for i := range f {
		f[i] = step(bound + 1)
	}
	if f[length-1] == 0 {
		f[length-1] = bound
	}
	return f
}

// smallPolynomials gives small polynomials of each degree: those with the least coefficients, some
// whose coefficients are all at the ends, and as many as wanted with others.
func smallPolynomials(count int) [][]int64 {
	list := [][]int64{}
	for _, f := range shortPolynomials(3, 1) {
		if len(f) >= 2 {
			list = append(list, f)
		}
	}
	step := coefficientSteps(17)
	for length := 2; length <= smallDegree+1; length++ {
		for signs := 0; signs < 1<<length; signs += 3 {
			f := repeated(smallCoefficient, length)
			for i := range f {
				if signs>>i&1 == 1 {
					f[i] = -smallCoefficient
				}
			}
			list = append(list, f)
		}
		list = append(list, append(make([]int64, length-1), 1), append(make([]int64, length-1), -smallCoefficient))
	}
	for i := range count {
		length := 5 - i%7%4
		list = append(list, coefficientsWithin(step, length, []int64{1, 2, 5, 20, smallCoefficient}[i%5]))
	}
	return list
}

// monicPolynomials gives polynomials with the last coefficient 1 in place of another one.
func monicPolynomials(list [][]int64) [][]int64 {
	monic := [][]int64{}
	for _, f := range list {
		if len(f) > 0 {
			monic = append(monic, append(slices.Clone(f[:len(f)-1]), 1))
		}
	}
	return monic
}

// notSmall gives valid polynomials that miss each condition for small ones alone, and some that miss several.
func notSmall() [][]int64 {
	list := [][]int64{
		nil, {}, {1}, {-1}, {smallCoefficient}, {-smallCoefficient}, {smallCoefficient + 1}, {largestCoefficient}, {0, 0, 0, 0, 0, 1}, repeated(1, 6), repeated(-smallCoefficient, 6), repeated(1, 7), repeated(1, 8), repeated(1, 9), {-2, 0, 1, 0, 0, 0, 0, 0, 1},
		repeated(largestCoefficient, 9), repeated(smallCoefficient+1, 5), repeated(-smallCoefficient-1, 5), repeated(smallCoefficient+1, 6),
	}
	for _, n := range []int64{smallCoefficient + 1, -smallCoefficient - 1, 2 * smallCoefficient, 100, 256, -316, 1000, largestCoefficient, -largestCoefficient} {
		list = append(list, []int64{n, 1}, []int64{0, n}, []int64{1, n, 1}, []int64{n, 0, 1}, []int64{1, 0, 0, n}, []int64{n, 0, 0, 0, 1}, []int64{1, 0, n, 0, 1}, []int64{1, 0, 0, n, 1}, []int64{1, 1, 1, 1, n})
	}
	return list
}

// coefficientAt gives the coefficient of a power of x, which is 0 if the polynomial has no such term.
func coefficientAt(f []int64, power int) int64 {
	if power < 0 || power >= len(f) {
		return 0
	}
	return f[power]
}

// sylvester gives the Sylvester matrix number by number.
func sylvester(f, g []int64) [][]int64 {
	n, m := len(f)-1, len(g)-1
	rows := [][]int64{}
	for i := range n + m {
		row := []int64{}
		for j := range n + m {
			if i < m {
				row = append(row, coefficientAt(f, n+i-j))
			} else {
				row = append(row, coefficientAt(g, i-j))
			}
		}
		rows = append(rows, row)
	}
	return rows
}

// exactDeterminant gives a determinant. For each set of columns it expands that of the first rows in
// these columns by their last row.
func exactDeterminant(rows [][]int64) *big.Int {
	minors := zeros(1 << len(rows))
	minors[0].SetInt64(1)
	for set := 1; set < len(minors); set++ {
		last := bits.OnesCount(uint(set)) - 1
		for column, n := range rows[last] {
			if n == 0 || set>>column&1 == 0 {
				continue
			}
			if before := bits.OnesCount(uint(set & (1<<column - 1))); (last+before)%2 == 1 {
				n = -n
			}
			part := new(big.Int).Mul(big.NewInt(n), minors[set-1<<column])
			minors[set].Add(minors[set], part)
		}
	}
	return minors[len(minors)-1]
}

func exactResultant(f, g []int64) *big.Int {
	return exactDeterminant(sylvester(f, g))
}

// term gives a product of integers.
func term(factors ...int64) *big.Int {
	product := big.NewInt(1)
	for _, n := range factors {
		product.Mul(product, big.NewInt(n))
	}
	return product
}

// sumOf gives a sum of integers.
func sumOf(parts ...*big.Int) *big.Int {
	sum := new(big.Int)
	for _, n := range parts {
		sum.Add(sum, n)
	}
	return sum
}

// exactDiscriminant gives the discriminant of a polynomial of a degree in 1..4 by the formulas for each degree.
func exactDiscriminant(f []int64) *big.Int {
	switch len(f) {
	case 2:
		return big.NewInt(1)
	case 3:
		a, b, c := f[2], f[1], f[0]
		return big.NewInt(b*b - 4*a*c)
	case 4:
		a, b, c, d := f[3], f[2], f[1], f[0]
		return big.NewInt(b*b*c*c - 4*a*c*c*c - 4*b*b*b*d - 27*a*a*d*d + 18*a*b*c*d)
	}
	a, b, c, d, e := f[4], f[3], f[2], f[1], f[0]
	return sumOf(
		term(256, a, a, a, e, e, e), term(-192, a, a, b, d, e, e), term(-128, a, a, c, c, e, e), term(144, a, a, c, d, d, e),
		term(-27, a, a, d, d, d, d), term(144, a, b, b, c, e, e), term(-6, a, b, b, d, d, e), term(-80, a, b, c, c, d, e),
		term(18, a, b, c, d, d, d), term(16, a, c, c, c, c, e), term(-4, a, c, c, c, d, d), term(-27, b, b, b, b, e, e),
		term(18, b, b, b, c, d, e), term(-4, b, b, b, d, d, d), term(-4, b, b, c, c, c, e), term(b, b, c, c, d, d),
	)
}

// homogeneous gives coefficients in -60..60 for which the sum of the products g[i] * b^i * a^(degree-i)
// is n, or nil if there are none. No prime may divide both a and b.
func homogeneous(n, a, b int64, degree int) []int64 {
	power := int64(1)
	for range degree {
		power *= a
	}
	for first := int64(-smallCoefficient); first <= smallCoefficient; first++ {
		rest := n - first*power
		if degree == 0 && rest == 0 && first != 0 {
			return []int64{first}
		}
		if degree == 0 || rest%b != 0 {
			continue
		}
		if others := homogeneous(rest/b, a, b, degree-1); others != nil {
			return append([]int64{first}, others...)
		}
	}
	return nil
}

func TestConstantsOfResultants(t *testing.T) {
	if impl.SmallDegree != smallDegree || impl.SmallCoefficient != smallCoefficient {
		t.Error("limits", impl.SmallDegree, impl.SmallCoefficient)
	}
}

func TestIsSmall(t *testing.T) {
	for _, f := range smallPolynomials(500) {
		if !impl.IsSmall(f) {
			t.Error("IsSmall", f)
		}
	}
	for _, f := range [][]int64{{0, 1}, {0, -1}, {60, 60}, {-60, -60}, {0, 0, 0, 0, 1}, {60, 60, 60, 60, 60}, {-60, -60, -60, -60, -60}, {59, -60, 60, 1, -1}} {
		if !impl.IsSmall(f) {
			t.Error("IsSmall", f)
		}
	}
	for _, f := range append(notSmall(), invalidPolynomials()...) {
		if impl.IsSmall(f) {
			t.Error("IsSmall", f)
		}
	}
}

// sameRows tells whether two matrices have equal rows.
func sameRows(a, b [][]int64) bool {
	return slices.EqualFunc(a, b, slices.Equal[[]int64])
}

func TestSylvesterMatrix(t *testing.T) {
	for _, c := range []struct {
		f, g []int64
		want [][]int64
	}{
		{[]int64{2, 1}, []int64{4, 3}, [][]int64{{1, 2}, {3, 4}}},
		{[]int64{0, 1}, []int64{0, -60}, [][]int64{{1, 0}, {-60, 0}}},
		{[]int64{-2, 0, 1}, []int64{-1, 1}, [][]int64{{1, 0, -2}, {1, -1, 0}, {0, 1, -1}}},
		{[]int64{-1, 1}, []int64{-2, 0, 1}, [][]int64{{1, -1, 0}, {0, 1, -1}, {1, 0, -2}}},
		{[]int64{5, 7, 9}, []int64{2, 4, 6}, [][]int64{{9, 7, 5, 0}, {0, 9, 7, 5}, {6, 4, 2, 0}, {0, 6, 4, 2}}},
		{[]int64{4, 3, 2, 1}, []int64{7, 6, 5}, [][]int64{{1, 2, 3, 4, 0}, {0, 1, 2, 3, 4}, {5, 6, 7, 0, 0}, {0, 5, 6, 7, 0}, {0, 0, 5, 6, 7}}},
		{[]int64{8, 9}, []int64{1, 2, 3, 4, 5}, [][]int64{{9, 8, 0, 0, 0}, {0, 9, 8, 0, 0}, {0, 0, 9, 8, 0}, {0, 0, 0, 9, 8}, {5, 4, 3, 2, 1}}},
	} {
		if rows, code := impl.SylvesterMatrix(c.f, c.g); !sameRows(rows, c.want) || code != impl.ErrNone {
			t.Error("SylvesterMatrix", c.f, c.g, rows, code)
		}
	}
	list := smallPolynomials(60)
	for _, f := range list {
		for _, g := range list {
			if rows, code := impl.SylvesterMatrix(f, g); !sameRows(rows, sylvester(f, g)) || code != impl.ErrNone {
				t.Fatal("SylvesterMatrix", f, g, rows, code)
			}
		}
	}
}

// TestResultantsAreExact compares with exact determinants, and tells whether they are 0 also where
// they are no values.
func TestResultantsAreExact(t *testing.T) {
	list := smallPolynomials(100)
	codes := map[int64]int{}
	great, none := 0, 0
	for _, f := range list {
		for _, g := range list {
			exact := exactResultant(f, g)
			want, wantCode := fittedValue(exact)
			if got, code := impl.ResultantOf(f, g); got != want || code != wantCode {
				t.Fatal("ResultantOf", f, g, got, code, want, wantCode)
			}
			isZero := exact.Sign() == 0
			if got, code := impl.HaveCommonRoot(f, g); got != isZero || code != impl.ErrNone {
				t.Fatal("HaveCommonRoot", f, g, got, code, exact)
			}
			codes[wantCode]++
			if want > 1<<40-1<<38 || want < 1<<38-1<<40 {
				great++
			}
			if isZero {
				none++
			}
		}
	}
	if codes[impl.ErrNone] < 5000 || codes[impl.ErrLimit] < 500 || great < 10 || none < 500 {
		t.Error("codes, great values and zeros of resultants", codes, great, none)
	}
}

// TestPromise8ExchangedPolynomials exchanges two polynomials: the sign changes if both degrees are odd.
func TestPromise8ExchangedPolynomials(t *testing.T) {
	list := smallPolynomials(150)
	changed, kept := 0, 0
	for _, f := range list {
		for _, g := range list {
			one, code := impl.ResultantOf(f, g)
			two, codeTwo := impl.ResultantOf(g, f)
			if len(f)%2 == 0 && len(g)%2 == 0 {
				two = -two
				changed++
			} else if one != 0 {
				kept++
			}
			if one != two || code != codeTwo {
				t.Fatal("resultants of exchanged polynomials", f, g, one, code, two, codeTwo)
			}
		}
	}
	if changed < 1000 || kept < 1000 {
		t.Error("resultants that were exchanged", changed, kept)
	}
}

// TestResultantsOfProducts takes products of two polynomials that are small themselves.
func TestResultantsOfProducts(t *testing.T) {
	list := smallPolynomials(60)
	checked := 0
	for _, a := range list {
		for _, b := range list {
			product, code := impl.MultiplyPolynomials(a, b)
			if code != impl.ErrNone || !impl.IsSmall(product) {
				continue
			}
			for _, g := range list {
				first, codeFirst := impl.ResultantOf(a, g)
				second, codeSecond := impl.ResultantOf(b, g)
				if codeFirst != impl.ErrNone || codeSecond != impl.ErrNone {
					continue
				}
				want, wantCode := fittedValue(term(first, second))
				if got, code := impl.ResultantOf(product, g); got != want || code != wantCode {
					t.Fatal("resultant of a product", a, b, g, got, code, want, wantCode)
				}
				checked++
			}
		}
	}
	if checked < 10000 {
		t.Error("resultants of products that were checked", checked)
	}
}

// TestResultantsWithDegreeOne compares with values at the root: for ax - b and g of the degree m the
// resultant is the sum of all g[i] * b^i * a^(m-i).
func TestResultantsWithDegreeOne(t *testing.T) {
	ends := []int64{1, -1, 2, 3, -7, 10, 59, 60, -60}
	for _, g := range smallPolynomials(100) {
		for _, a := range ends {
			for _, b := range append(ends, 0) {
				want := int64(0)
				for i := len(g) - 1; i >= 0; i-- {
					part := g[i]
					for range i {
						part *= b
					}
					for range len(g) - 1 - i {
						part *= a
					}
					want += part
				}
				if got, code := impl.ResultantOf([]int64{-b, a}, g); got != want || code != impl.ErrNone {
					t.Fatal("ResultantOf", a, b, g, got, code, want)
				}
			}
		}
	}
}

// TestResultantsNearPowersOfTwo takes resultants at which numbers of 32 bits end, and great primes
// below, by which the resultant would be 0.
func TestResultantsNearPowersOfTwo(t *testing.T) {
	checked := 0
	for exponent := 20; exponent <= 31; exponent++ {
		for d := int64(-64); d <= 64; d++ {
			want := int64(1)<<exponent + d
			for _, root := range [][2]int64{{59, 60}, {60, 59}, {-59, 60}, {60, -59}} {
				g := homogeneous(want, root[0], root[1], 4)
				if g == nil {
					continue
				}
				checked++
				f := []int64{-root[1], root[0]}
				got, code := impl.ResultantOf(f, g)
				common, two := impl.HaveCommonRoot(g, f)
				if got != want || common || code != impl.ErrNone || two != impl.ErrNone {
					t.Fatal("ResultantOf and HaveCommonRoot", f, g, got, code, want, common, two)
				}
			}
		}
	}
	if checked < 5000 {
		t.Error("resultants that were checked", checked)
	}
}

func TestResultantOf(t *testing.T) {
	const most = impl.MaxValue
	for _, c := range []struct {
		f, g []int64
		want int64
		code int64
	}{
		{[]int64{-2, 0, 1}, []int64{-1, 1}, -1, impl.ErrNone}, {[]int64{-1, 1}, []int64{-2, 0, 1}, -1, impl.ErrNone},
		{[]int64{2, 1}, []int64{4, 3}, -2, impl.ErrNone}, {[]int64{4, 3}, []int64{2, 1}, 2, impl.ErrNone}, {[]int64{60, 60}, []int64{60, -60}, 7200, impl.ErrNone}, {[]int64{60, 60}, []int64{-60, 60}, -7200, impl.ErrNone},
		{[]int64{1, 0, 1}, []int64{-2, 0, 1}, 9, impl.ErrNone}, {[]int64{1, 0, 1}, []int64{1, 0, 0, 0, 1}, 4, impl.ErrNone}, {[]int64{0, 0, 0, 1}, []int64{2, 1}, 8, impl.ErrNone}, {[]int64{2, 1}, []int64{0, 0, 0, 1}, -8, impl.ErrNone},
		{[]int64{0, 0, 0, 0, 1}, []int64{-3, 0, 0, 2}, 81, impl.ErrNone}, {[]int64{0, 0, 2}, []int64{5, 7, 0, 0, 3}, 400, impl.ErrNone}, {[]int64{1, 1, 1, 1, 1}, []int64{-1, 0, 0, 0, 1}, 5, impl.ErrNone}, {[]int64{1, 1, 1, 1}, []int64{-1, 0, 0, 0, 1}, 0, impl.ErrNone},
		// A polynomial and itself, its opposite or a multiple of it; common roots.
		{[]int64{5, 1}, []int64{5, 1}, 0, impl.ErrNone}, {[]int64{-2, 0, 1}, []int64{-2, 0, 1}, 0, impl.ErrNone}, {[]int64{-2, 0, 1}, []int64{2, 0, -1}, 0, impl.ErrNone}, {[]int64{-2, 0, 1}, []int64{-60, 0, 30}, 0, impl.ErrNone}, {repeated(60, 5), repeated(60, 5), 0, impl.ErrNone}, {repeated(60, 5), repeated(-60, 5), 0, impl.ErrNone},
		{[]int64{-2, 0, 1}, []int64{-4, 0, 0, 0, 1}, 0, impl.ErrNone}, {[]int64{-1, 0, 1}, []int64{-1, 1}, 0, impl.ErrNone}, {[]int64{0, 1}, []int64{0, 0, 0, 0, 7}, 0, impl.ErrNone}, {[]int64{-1, 2}, []int64{-1, 0, 4}, 0, impl.ErrNone},
		// A first coefficient 0 makes pivots 0.
		{[]int64{0, 0, 0, 0, 1}, []int64{1, 0, 0, 0, 1}, 1, impl.ErrNone}, {[]int64{1, 0, 0, 0, 1}, []int64{0, 0, 0, 0, 1}, 1, impl.ErrNone}, {[]int64{1, 0, 0, 1}, []int64{0, 0, 0, 1}, -1, impl.ErrNone}, {[]int64{0, 0, 0, 1}, []int64{1, 0, 0, 1}, 1, impl.ErrNone},
		// The greatest value, the least one, and one beyond.
		{[]int64{0, 0, 0, 0, 20}, []int64{50, 1, 2, 3, 4}, most, impl.ErrNone}, {[]int64{0, 0, 0, 0, 20}, []int64{-50, 1, 2, 3, 4}, most, impl.ErrNone}, {[]int64{50, 1, 2, 3, 4}, []int64{0, 0, 0, 0, 20}, most, impl.ErrNone},
		{[]int64{-43, 1, -43, 1}, []int64{17, -31, -53, -31, 30}, most, impl.ErrNone}, {[]int64{-43, 1, -43, 1}, []int64{-60, -54, 12, -54, -28}, -most, impl.ErrNone},
		{[]int64{-45, 1, -45, 1}, []int64{-44, 36, 57, -29, 25}, 0, impl.ErrLimit}, {[]int64{-45, 1, -45, 1}, []int64{44, -36, -57, 29, -25}, 0, impl.ErrLimit},
		{[]int64{0, 0, 0, 0, 60}, []int64{60, 0, 0, 0, 1}, 0, impl.ErrLimit}, {[]int64{60, 0, 0, 0, 60}, []int64{-60, 0, 0, 0, 60}, 0, impl.ErrLimit}, {repeated(60, 5), []int64{60, -60, 60, -60, 60}, 0, impl.ErrLimit},
		// Great primes.
		{[]int64{-58, 49}, []int64{59, 54, 42, 44, 60}, 2147483647, impl.ErrNone}, {[]int64{-59, 53}, []int64{41, 35, 51, 59, 31}, 2147483629, impl.ErrNone}, {[]int64{-41, -35, -51, -59, -31}, []int64{-59, 53}, -2147483629, impl.ErrNone},
		// Powers of 2 up to the limit, and beyond it.
		{[]int64{0, 0, 0, 0, 16}, []int64{16, 0, 0, 0, 1}, 1 << 32, impl.ErrNone}, {[]int64{0, 0, 0, 0, 16}, []int64{32, 0, 0, 0, 1}, 1 << 36, impl.ErrNone}, {[]int64{0, 0, 0, 0, 32}, []int64{32, 0, 0, 0, 1}, 0, impl.ErrLimit}, {[]int64{0, 0, 0, 32}, []int64{32, 0, 0, 1}, 1 << 30, impl.ErrNone},
	} {
		if got, code := impl.ResultantOf(c.f, c.g); got != c.want || code != c.code {
			t.Error("ResultantOf", c.f, c.g, got, code, c.want, c.code)
		}
	}
}

// TestDiscriminantsAreExact compares with the formulas for each degree, and with resultants by exact
// determinants.
func TestDiscriminantsAreExact(t *testing.T) {
	codes := map[int64]int{}
	signs := map[[2]int]int{}
	for i, f := range smallPolynomials(20000) {
		exact := exactDiscriminant(f)
		want, wantCode := fittedValue(exact)
		if got, code := impl.DiscriminantOf(f); got != want || code != wantCode {
			t.Fatal("DiscriminantOf", f, got, code, want, wantCode)
		}
		if got, code := impl.IsSeparable(f); got != (exact.Sign() != 0) || code != impl.ErrNone {
			t.Fatal("IsSeparable", f, got, code, exact)
		}
		codes[wantCode]++
		signs[[2]int{len(f) - 1, exact.Sign()}]++
		if i%50 != 0 || len(f) == 2 {
			continue
		}
		derivative, _ := impl.DerivativeOf(f)
		last := big.NewInt(f[len(f)-1])
		if (len(f)-1)*(len(f)-2)/2%2 == 1 {
			last.Neg(last)
		}
		if last.Mul(last, exact); last.Cmp(exactResultant(f, derivative)) != 0 {
			t.Fatal("discriminant and resultant", f, exact)
		}
	}
	if codes[impl.ErrNone] < 10000 || codes[impl.ErrLimit] < 30 {
		t.Error("codes of discriminants", codes)
	}
	for degree := 2; degree <= smallDegree; degree++ {
		for sign := -1; sign <= 1; sign++ {
			if signs[[2]int{degree, sign}] < 10 {
				t.Error("discriminants of a degree and a sign", degree, sign, signs)
			}
		}
	}
}

func TestDiscriminantOf(t *testing.T) {
	const most = impl.MaxValue
	for _, c := range []struct {
		f    []int64
		want int64
		code int64
	}{
		// Degree 1.
		{[]int64{0, 1}, 1, impl.ErrNone}, {[]int64{0, -1}, 1, impl.ErrNone}, {[]int64{60, 60}, 1, impl.ErrNone}, {[]int64{60, -60}, 1, impl.ErrNone}, {[]int64{-7, 12}, 1, impl.ErrNone},
		// Degree 2, with the sign changed.
		{[]int64{-2, 0, 1}, 8, impl.ErrNone}, {[]int64{2, 0, 1}, -8, impl.ErrNone}, {[]int64{2, 0, -1}, 8, impl.ErrNone}, {[]int64{1, 1, 1}, -3, impl.ErrNone}, {[]int64{-1, -1, 1}, 5, impl.ErrNone}, {[]int64{1, 2, 1}, 0, impl.ErrNone}, {[]int64{0, 0, 1}, 0, impl.ErrNone}, {[]int64{0, 0, -60}, 0, impl.ErrNone}, {[]int64{0, 1, 1}, 1, impl.ErrNone}, {[]int64{60, 60, -60}, 18000, impl.ErrNone}, {[]int64{60, 0, 60}, -14400, impl.ErrNone}, {[]int64{1, 3, 2}, 1, impl.ErrNone},
		// Degree 3, with the sign changed.
		{[]int64{-1, -1, 0, 1}, -23, impl.ErrNone}, {[]int64{1, -3, 0, 1}, 81, impl.ErrNone}, {[]int64{-2, 0, 0, 1}, -108, impl.ErrNone}, {[]int64{-2, 0, 0, -3}, -972, impl.ErrNone}, {[]int64{0, -1, 0, 1}, 4, impl.ErrNone}, {[]int64{0, 0, 0, 1}, 0, impl.ErrNone}, {[]int64{0, 0, 1, 1}, 0, impl.ErrNone}, {[]int64{-1, 1, 1, -1}, 0, impl.ErrNone}, {[]int64{-6, 11, -6, 1}, 4, impl.ErrNone}, {[]int64{60, 0, 0, 60}, -349920000, impl.ErrNone}, {[]int64{60, 60, -60, -60}, 0, impl.ErrNone},
		// Degree 4, with the sign kept.
		{[]int64{1, 0, 0, 0, 1}, 256, impl.ErrNone}, {[]int64{16, 0, 0, 0, 16}, 1 << 32, impl.ErrNone}, {[]int64{-2, 0, 0, 0, 1}, -2048, impl.ErrNone}, {[]int64{1, 1, 1, 1, 1}, 125, impl.ErrNone}, {[]int64{1, 0, -10, 0, 1}, 147456, impl.ErrNone}, {[]int64{-1, -1, 0, 0, 1}, -283, impl.ErrNone}, {[]int64{0, 0, 0, 0, 1}, 0, impl.ErrNone}, {[]int64{4, 0, -4, 0, 1}, 0, impl.ErrNone}, {[]int64{0, 0, 1, 0, 1}, 0, impl.ErrNone}, {[]int64{24, -50, 35, -10, 1}, 144, impl.ErrNone}, {[]int64{1, 0, 2, 0, 1}, 0, impl.ErrNone},
		// Those that come nearest to the limits on both sides.
		{[]int64{55, -48, 22, 9, 26}, most - 8075, impl.ErrNone}, {[]int64{49, -40, 37, 2, 32}, 0, impl.ErrLimit}, {[]int64{57, 35, -32, 35, 24}, 1777 - most, impl.ErrNone}, {[]int64{-52, 50, -11, 50, 15}, 0, impl.ErrLimit}, {[]int64{60, 0, 0, 0, 60}, 0, impl.ErrLimit}, {[]int64{-60, 0, 0, 0, 60}, 0, impl.ErrLimit},
	} {
		if got, code := impl.DiscriminantOf(c.f); got != c.want || code != c.code {
			t.Error("DiscriminantOf", c.f, got, code, c.want, c.code)
		}
		isSeparable := c.want != 0 || c.code == impl.ErrLimit
		if got, code := impl.IsSeparable(c.f); got != isSeparable || code != impl.ErrNone {
			t.Error("IsSeparable", c.f, got, code)
		}
	}
}

// TestCommonRootsOfProducts multiplies polynomials with a common factor, whose roots are rational or not.
func TestCommonRootsOfProducts(t *testing.T) {
	factors := [][]int64{{0, 1}, {1, 1}, {-1, 2}, {-60, 1}, {-2, 0, 1}, {1, 0, 1}, {1, 1, 1}, {-1, -1, 0, 1}, {-3, 0, 5}, {-7, 3, 60}}
	others := [][]int64{{1}, {-1}, {7}, {1, 1}, {-2, 1}, {3, 5}, {3, 0, 1}, {-5, 1, 1}, {2, 0, 0, 1}}
	checked := 0
	for _, h := range factors {
		for _, a := range others {
			for _, b := range others {
				f, _ := impl.MultiplyPolynomials(h, a)
				g, _ := impl.MultiplyPolynomials(h, b)
				if !impl.IsSmall(f) || !impl.IsSmall(g) {
					continue
				}
				checked++
				common, code := impl.HaveCommonRoot(f, g)
				resultant, two := impl.ResultantOf(f, g)
				if !common || resultant != 0 || code != impl.ErrNone || two != impl.ErrNone {
					t.Error("a common factor", h, f, g, common, code, resultant, two)
				}
			}
			square, _ := impl.MultiplyPolynomials(h, h)
			f, _ := impl.MultiplyPolynomials(square, a)
			if !impl.IsSmall(f) {
				continue
			}
			checked++
			separable, code := impl.IsSeparable(f)
			discriminant, two := impl.DiscriminantOf(f)
			if separable || discriminant != 0 || code != impl.ErrNone || two != impl.ErrNone {
				t.Error("a multiple root", h, f, separable, code, discriminant, two)
			}
		}
	}
	if checked < 300 {
		t.Error("polynomials that were checked", checked)
	}
}

func TestHaveCommonRoot(t *testing.T) {
	for _, c := range []struct {
		f, g []int64
		want bool
	}{
		{[]int64{-1, 0, 1}, []int64{-1, 1}, true}, {[]int64{-1, 0, 1}, []int64{-2, 1}, false}, {[]int64{-2, 0, 1}, []int64{-3, 0, 1}, false}, {[]int64{-2, 0, 1}, []int64{0, -2, 0, 1}, true}, {[]int64{1, 0, 1}, []int64{-1, 0, 0, 0, 1}, true}, {[]int64{1, 0, 1}, []int64{1, 0, 0, 0, 1}, false},
		{[]int64{0, 1}, []int64{0, 60}, true}, {[]int64{0, 1}, []int64{60, 1}, false}, {[]int64{1, 60}, []int64{1, 59}, false}, {[]int64{-58, 49}, []int64{59, 54, 42, 44, 60}, false}, {[]int64{-59, 53}, []int64{41, 35, 51, 59, 31}, false}, {[]int64{60, 60}, []int64{1, 1}, true},
		// The resultants of these are no values.
		{[]int64{0, 0, 0, 0, 60}, []int64{60, 0, 0, 0, 1}, false}, {repeated(60, 5), []int64{60, -60, 60, -60, 60}, false}, {[]int64{0, 0, 0, 0, 32}, []int64{32, 0, 0, 0, 1}, false}, {[]int64{60, 0, 0, 0, 60}, []int64{-60, 0, 0, 0, 60}, false}, {[]int64{-45, 1, -45, 1}, []int64{-44, 36, 57, -29, 25}, false},
		{repeated(60, 5), repeated(-60, 5), true}, {[]int64{60, -59, 58, -57, 60}, []int64{-60, 59, -58, 57, -60}, true},
	} {
		if got, code := impl.HaveCommonRoot(c.f, c.g); got != c.want || code != impl.ErrNone {
			t.Error("HaveCommonRoot", c.f, c.g, got, code)
		}
	}
}

// TestErrorsOfSmallPolynomials gives each function arguments that are not small, not valid, or both.
func TestErrorsOfSmallPolynomials(t *testing.T) {
	small := [][]int64{{0, 1}, repeated(60, 5), {-2, 0, 1}}
	beyond, invalid := notSmall(), invalidPolynomials()
	check := func(f, g []int64, want int64) {
		for _, pair := range [][2][]int64{{f, g}, {g, f}} {
			rows, code := impl.SylvesterMatrix(pair[0], pair[1])
			resultant, two := impl.ResultantOf(pair[0], pair[1])
			common, three := impl.HaveCommonRoot(pair[0], pair[1])
			if len(rows) != 0 || resultant != 0 || common || code != want || two != want || three != want {
				t.Fatal("errors of two polynomials", pair, want, rows, code, resultant, two, common, three)
			}
		}
	}
	for _, f := range beyond {
		for _, g := range slices.Concat(small, beyond) {
			check(f, g, impl.ErrRange)
		}
		discriminant, code := impl.DiscriminantOf(f)
		separable, two := impl.IsSeparable(f)
		if discriminant != 0 || separable || code != impl.ErrRange || two != impl.ErrRange {
			t.Error("errors of a polynomial that is not small", f, discriminant, code, separable, two)
		}
	}
	for _, f := range invalid {
		for _, g := range slices.Concat(small, beyond, [][]int64{f, {0}}) {
			check(f, g, impl.ErrInvalid)
		}
		discriminant, code := impl.DiscriminantOf(f)
		separable, two := impl.IsSeparable(f)
		if discriminant != 0 || separable || code != impl.ErrInvalid || two != impl.ErrInvalid {
			t.Error("errors of a polynomial that is not valid", f, discriminant, code, separable, two)
		}
	}
}

// exactDivision gives the coefficients of the quotient and the remainder of f by a monic polynomial.
func exactDivision(f, g []int64) (quotient, rest []*big.Int) {
	rest = exactSum(f, nil)
	quotient = zeros(len(f))
	for i := len(f) - len(g); i >= 0; i-- {
		quotient[i].Set(rest[i+len(g)-1])
		for j, n := range g {
			part := big.NewInt(n)
			rest[i+j].Sub(rest[i+j], part.Mul(part, quotient[i]))
		}
	}
	return quotient, rest
}

// TestPromise9DivisionsAreExact multiplies back, and finds out where a quotient or a remainder is not valid.
func TestPromise9DivisionsAreExact(t *testing.T) {
	dividends := slices.Concat(shortPolynomials(4, 1), widePolynomials(), smallPolynomials(100))
	divisors := slices.Concat(monicPolynomials(shortPolynomials(4, 1)), monicPolynomials(widePolynomials()), monicPolynomials(smallPolynomials(40)))
	checked, limited := 0, 0
	for _, f := range dividends {
		for _, g := range divisors {
			exactQuotient, exactRest := exactDivision(f, g)
			wantQuotient, code := fittedPolynomial(exactQuotient)
			wantRest, two := fittedPolynomial(exactRest)
			quotient, rest, got := impl.DivideMonic(f, g)
			if code != impl.ErrNone || two != impl.ErrNone {
				limited++
				if len(quotient) != 0 || len(rest) != 0 || got != impl.ErrLimit {
					t.Fatal("DivideMonic", f, g, quotient, rest, got)
				}
				continue
			}
			checked++
			if !slices.Equal(quotient, wantQuotient) || !slices.Equal(rest, wantRest) || got != impl.ErrNone {
				t.Fatal("DivideMonic", f, g, quotient, rest, got, wantQuotient, wantRest)
			}
			again := exactProduct(g, quotient)
			for i, n := range rest {
				again[i].Add(again[i], big.NewInt(n))
			}
			if back, code := fittedPolynomial(again); !isResult(back, code, f, impl.ErrNone) || len(rest) >= len(g) {
				t.Fatal("the divisor times the quotient plus the remainder", f, g, quotient, rest, back)
			}
		}
	}
	if checked < 10000 || limited < 10000 {
		t.Error("divisions that were checked", checked, limited)
	}
}

func TestDivideMonic(t *testing.T) {
	const most = largestCoefficient
	for _, c := range []struct {
		f, g, quotient, rest []int64
		code                 int64
	}{
		{[]int64{-2, 0, 1}, []int64{-1, 1}, []int64{1, 1}, []int64{-1}, impl.ErrNone}, {[]int64{-1, 0, 1}, []int64{-1, 1}, []int64{1, 1}, nil, impl.ErrNone}, {[]int64{5, 4, 3, 2}, []int64{1, 0, 1}, []int64{3, 2}, []int64{2, 2}, impl.ErrNone},
		// A divisor of a greater and of an equal degree.
		{nil, []int64{0, 1}, nil, nil, impl.ErrNone}, {nil, []int64{1}, nil, nil, impl.ErrNone}, {nil, append(repeated(most, 8), 1), nil, nil, impl.ErrNone}, {[]int64{7}, []int64{3, 1}, nil, []int64{7}, impl.ErrNone}, {[]int64{1, 2}, []int64{0, 0, 1}, nil, []int64{1, 2}, impl.ErrNone}, {repeated(most, 8), append(repeated(-most, 8), 1), nil, repeated(most, 8), impl.ErrNone},
		{[]int64{3, 5}, []int64{1, 1}, []int64{5}, []int64{-2}, impl.ErrNone}, {[]int64{3, 5, 7}, []int64{3, 5, 1}, []int64{7}, []int64{-18, -30}, impl.ErrNone}, {repeated(4, 9), repeated(1, 9), []int64{4}, nil, impl.ErrNone}, {append(make([]int64, 8), 2), append(repeated(1, 8), 1), []int64{2}, repeated(-2, 8), impl.ErrNone}, {[]int64{2, 3, 1}, []int64{2, 3, 1}, []int64{1}, nil, impl.ErrNone}, {[]int64{-2, -3, -1}, []int64{2, 3, 1}, []int64{-1}, nil, impl.ErrNone},
		// The divisor 1.
		{[]int64{1}, []int64{1}, []int64{1}, nil, impl.ErrNone}, {[]int64{-5}, []int64{1}, []int64{-5}, nil, impl.ErrNone}, {repeated(most, 9), []int64{1}, repeated(most, 9), nil, impl.ErrNone}, {[]int64{0, 0, 3}, []int64{1}, []int64{0, 0, 3}, nil, impl.ErrNone},
		// The divisor x, and powers of it.
		{[]int64{1, 2, 3}, []int64{0, 1}, []int64{2, 3}, []int64{1}, impl.ErrNone}, {[]int64{0, 0, 3}, []int64{0, 1}, []int64{0, 3}, nil, impl.ErrNone}, {repeated(-most, 9), []int64{0, 0, 0, 0, 1}, repeated(-most, 5), repeated(-most, 4), impl.ErrNone}, {append(repeated(0, 8), 1), append(repeated(0, 7), 1), []int64{0, 1}, nil, impl.ErrNone}, {[]int64{5, 0, 0, 1}, []int64{0, 1}, []int64{0, 0, 1}, []int64{5}, impl.ErrNone}, {[]int64{0, 5, 0, 0, 1}, []int64{0, 0, 0, 1}, []int64{0, 1}, []int64{0, 5}, impl.ErrNone},
		// Quotients at the limit and beyond it.
		{[]int64{0, 0, 1000}, []int64{-1000, 1}, nil, nil, impl.ErrLimit}, {[]int64{-most, 0, 1}, []int64{-1000, 1}, []int64{1000, 1}, nil, impl.ErrNone}, {[]int64{0, 0, 1}, []int64{-1000, 1}, []int64{1000, 1}, []int64{most}, impl.ErrNone}, {[]int64{1, 0, 1}, []int64{-1000, 1}, nil, nil, impl.ErrLimit}, {[]int64{0, most, 1}, []int64{0, 1}, []int64{most, 1}, nil, impl.ErrNone}, {[]int64{1, most, 1}, []int64{1, 1}, []int64{most - 1, 1}, []int64{2 - most}, impl.ErrNone},
		{[]int64{0, 0, most}, []int64{-1, 1}, []int64{most, most}, []int64{most}, impl.ErrNone}, {[]int64{0, 1, most}, []int64{-1, 1}, nil, nil, impl.ErrLimit}, {[]int64{-1, 1, most}, []int64{-1, 1}, nil, nil, impl.ErrLimit}, {[]int64{0, -1, -most}, []int64{-1, 1}, nil, nil, impl.ErrLimit}, {[]int64{-1, 0, 0, most}, []int64{-1, 1}, repeated(most, 3), []int64{most - 1}, impl.ErrNone},
		// Remainders that are 0, also those of quotients that are not valid.
		{[]int64{0, 0, 0, 0, 0, 0, 0, 0, 1}, []int64{-2, 0, 0, 0, 0, 0, 0, 1}, []int64{0, 1}, []int64{0, 2}, impl.ErrNone}, {[]int64{0, -most, most - 1, 1}, []int64{most, 1}, []int64{0, -1, 1}, nil, impl.ErrNone}, {[]int64{-most, -most, 0, most, most}, []int64{-1, 1}, nil, nil, impl.ErrLimit}, {[]int64{most, most, 0, -most, -most}, []int64{-1, 1}, nil, nil, impl.ErrLimit},
		// Remainders at the limit and beyond it.
		{[]int64{0, most}, []int64{1, 1}, []int64{most}, []int64{-most}, impl.ErrNone}, {[]int64{0, most}, []int64{-1, 1}, []int64{most}, []int64{most}, impl.ErrNone}, {[]int64{1, most}, []int64{-1, 1}, nil, nil, impl.ErrLimit}, {[]int64{-1, most}, []int64{1, 1}, nil, nil, impl.ErrLimit}, {[]int64{0, 2}, []int64{-500000, 1}, []int64{2}, []int64{most}, impl.ErrNone}, {[]int64{0, 2}, []int64{-500001, 1}, nil, nil, impl.ErrLimit}, {[]int64{0, 2}, []int64{500001, 1}, nil, nil, impl.ErrLimit}, {[]int64{0, 0, 2}, []int64{1, 500001, 1}, nil, nil, impl.ErrLimit}, {[]int64{-2, 0, 2}, []int64{500001, 0, 1}, nil, nil, impl.ErrLimit},
		// Numbers that would overflow if the division went on.
		{append(make([]int64, 8), 1), []int64{-most, 1}, nil, nil, impl.ErrLimit}, {append(make([]int64, 8), 1), []int64{1 << 16, 1}, nil, nil, impl.ErrLimit}, {append(make([]int64, 8), 1), []int64{1 << 19, 1}, nil, nil, impl.ErrLimit}, {append(make([]int64, 8), most), []int64{-1 << 18, 1 << 18, 1}, nil, nil, impl.ErrLimit}, {repeated(most, 9), []int64{most, 1}, nil, nil, impl.ErrLimit},
	} {
		quotient, rest, code := impl.DivideMonic(c.f, c.g)
		if !slices.Equal(quotient, c.quotient) || !slices.Equal(rest, c.rest) || code != c.code {
			t.Error("DivideMonic", c.f, c.g, quotient, rest, code)
		}
	}
}

func TestErrorsOfDivideMonic(t *testing.T) {
	notMonic := [][]int64{nil, {}, {2}, {-1}, {largestCoefficient}, {0, 2}, {1, -1}, {1, 1, 0, 3}, {1, 2}, {1, 1, 1, 1, 1, 1, 1, 1, 2}, repeated(largestCoefficient, 9), {1, -largestCoefficient}}
	for _, f := range [][]int64{nil, {1}, {2}, {2, 2}, {1, 1}, repeated(1, 9), repeated(largestCoefficient, 9)} {
		for _, g := range notMonic {
			if quotient, rest, code := impl.DivideMonic(f, g); len(quotient) != 0 || len(rest) != 0 || code != impl.ErrState {
				t.Error("DivideMonic", f, g, quotient, rest, code)
			}
		}
	}
	for _, f := range invalidPolynomials() {
		for _, g := range slices.Concat(notMonic, [][]int64{{1}, {0, 1}, repeated(1, 9), {-largestCoefficient, 1}, f, {0}}) {
			for _, pair := range [][2][]int64{{f, g}, {g, f}} {
				if quotient, rest, code := impl.DivideMonic(pair[0], pair[1]); len(quotient) != 0 || len(rest) != 0 || code != impl.ErrInvalid {
					t.Fatal("DivideMonic", pair, quotient, rest, code)
				}
			}
		}
	}
}

// exactPowerSums gives the sums of the first six powers of all roots as the sums on the diagonals of
// the powers of the matrix that multiplies by x.
func exactPowerSums(f []int64) []int64 {
	n := len(f) - 1
	power := make([][]*big.Int, n)
	for i := range power {
		power[i] = zeros(n)
		power[i][i].SetInt64(1)
	}
	sums := []int64{}
	for range 6 {
		sum := new(big.Int)
		for i, row := range power {
			// Times x: each coefficient moves up, and the last one brings the multiple of f with it.
			last := row[n-1]
			moved := append([]*big.Int{new(big.Int)}, row[:n-1]...)
			for j := range moved {
				part := big.NewInt(f[j])
				moved[j] = new(big.Int).Sub(moved[j], part.Mul(part, last))
			}
			power[i] = moved
			sum.Add(sum, moved[i])
		}
		sums = append(sums, sum.Int64())
	}
	return sums
}

func TestPowerSumsAreExact(t *testing.T) {
	list := monicPolynomials(slices.Concat(smallPolynomials(2000), [][]int64{repeated(60, 5), repeated(-60, 5), {60, -60, 60, -60, 1}, {-60, 60, -60, -60, 1}}))
	for _, f := range list {
		want := exactPowerSums(f)
		for count := int64(1); count <= 6; count++ {
			if got, code := impl.PowerSums(f, count); !slices.Equal(got, want[:count]) || code != impl.ErrNone {
				t.Fatal("PowerSums", f, count, got, code, want)
			}
		}
	}
}

// TestPowerSumsOfGivenRoots forms polynomials from their roots, also from multiple ones.
func TestPowerSumsOfGivenRoots(t *testing.T) {
	roots := []int64{0, 1, -1, 2, -2, 3, -3, 5, 60, -60}
	checked := 0
	for index := range 10000 {
		f := []int64{1}
		want := make([]int64, 6)
		for rest := index; rest > 0; rest /= 10 {
			root := roots[rest%10]
			f, _ = impl.MultiplyPolynomials(f, []int64{-root, 1})
			power := int64(1)
			for i := range want {
				power *= root
				want[i] += power
			}
		}
		if !impl.IsSmall(f) {
			continue
		}
		checked++
		if got, code := impl.PowerSums(f, 6); !slices.Equal(got, want) || code != impl.ErrNone {
			t.Fatal("PowerSums", f, got, code, want)
		}
	}
	if checked < 3000 {
		t.Error("polynomials that were checked", checked)
	}
}

func TestPowerSums(t *testing.T) {
	for _, c := range []struct {
		f     []int64
		count int64
		want  []int64
	}{
		{[]int64{-2, 0, 1}, 4, []int64{0, 4, 0, 8}}, {[]int64{-2, 0, 1}, 1, []int64{0}}, {[]int64{-2, 0, 1}, 6, []int64{0, 4, 0, 8, 0, 16}}, {[]int64{-3, 1}, 6, []int64{3, 9, 27, 81, 243, 729}}, {[]int64{3, 1}, 3, []int64{-3, 9, -27}}, {[]int64{0, 1}, 6, make([]int64, 6)}, {[]int64{60, 1}, 6, []int64{-60, 3600, -216000, 12960000, -777600000, 46656000000}},
		{[]int64{1, 0, 1}, 6, []int64{0, -2, 0, 2, 0, -2}}, {[]int64{1, 1, 1}, 6, []int64{-1, -1, 2, -1, -1, 2}}, {[]int64{1, -2, 1}, 6, repeated(2, 6)}, {[]int64{0, -5, 1}, 3, []int64{5, 25, 125}}, {[]int64{-2, 0, 0, 1}, 6, []int64{0, 0, 6, 0, 0, 12}}, {[]int64{-1, -1, 0, 1}, 6, []int64{0, 2, 3, 2, 5, 5}},
		{[]int64{1, 1, 1, 1, 1}, 6, []int64{-1, -1, -1, -1, 4, -1}}, {[]int64{0, 0, 0, 0, 1}, 5, make([]int64, 5)}, {[]int64{0, 0, 0, -7, 1}, 2, []int64{7, 49}}, {[]int64{1, 0, 0, 0, 1}, 6, []int64{0, 0, 0, -4, 0, 0}}, {[]int64{24, -50, 35, -10, 1}, 6, []int64{10, 30, 100, 354, 1300, 4890}},
	} {
		if got, code := impl.PowerSums(c.f, c.count); !slices.Equal(got, c.want) || code != impl.ErrNone {
			t.Error("PowerSums", c.f, c.count, got, code, c.want)
		}
	}
}

func TestErrorsOfPowerSums(t *testing.T) {
	check := func(f []int64, count, want int64) {
		if got, code := impl.PowerSums(f, count); len(got) != 0 || code != want {
			t.Fatal("PowerSums", f, count, got, code, want)
		}
	}
	notCounts := append(notValues(), 0, -1, -6, 7, 8, 60, impl.MaxValue, -impl.MaxValue, 1<<32, 1<<32+1, 1<<32+6)
	counts := []int64{1, 2, 6}
	for _, f := range [][]int64{{-2, 0, 1}, {0, 1}, {0, 0, 0, 0, 1}, {0, 2}, {-2, 0, -1}} {
		for _, count := range notCounts {
			check(f, count, impl.ErrRange)
		}
	}
	for _, f := range [][]int64{{0, 2}, {0, -1}, {-2, 0, -1}, {1, 1, 1, 60}, repeated(60, 5), repeated(-60, 5), {1, 0, 0, 0, -1}} {
		for _, count := range counts {
			check(f, count, impl.ErrState)
		}
	}
	for _, count := range slices.Concat(counts, notCounts) {
		for _, f := range notSmall() {
			check(f, count, impl.ErrRange)
		}
		for _, f := range invalidPolynomials() {
			check(f, count, impl.ErrInvalid)
		}
	}
}

// overwriteRows changes all numbers of the rows of a result and of their spare capacity, row by row,
// and tells whether no other row changes with it.
func overwriteRows(rows [][]int64) bool {
	for i, row := range rows {
		before := slices.Clone(rows[(i+1)%len(rows)])
		overwrite(row)
		if !slices.Equal(rows[(i+1)%len(rows)], before) {
			return false
		}
	}
	return true
}

// TestResultantsShareNoMemory overwrites results, one after the other.
func TestResultantsShareNoMemory(t *testing.T) {
	for _, f := range [][]int64{{0, 1}, {5, 1}, {1, 2, 1}, {7, 8, 9, 1}, {1, 1, 1, 1, 1}, {60, -60, 60, -60, 60}, repeated(1, 6), repeated(2, 8)} {
		first, wholeFirst := spare(f)
		before := slices.Clone(wholeFirst)
		for _, g := range [][]int64{{0, 1}, {-1, 1}, {1, -2, 1}, {-60, 0, 0, 0, 1}} {
			second, wholeSecond := spare(g)
			beforeSecond := slices.Clone(wholeSecond)
			for _, pair := range [][2][]int64{{first, second}, {second, first}, {first, first}} {
				rows, _ := impl.SylvesterMatrix(pair[0], pair[1])
				if !overwriteRows(rows) {
					t.Fatal("rows share memory", pair, rows)
				}
				impl.ResultantOf(pair[0], pair[1])
				impl.HaveCommonRoot(pair[0], pair[1])
				quotient, rest, _ := impl.DivideMonic(pair[0], pair[1])
				restBefore := slices.Clone(rest)
				overwrite(quotient)
				if !slices.Equal(rest, restBefore) {
					t.Fatal("quotient and remainder share memory", pair, rest, restBefore)
				}
				overwrite(rest)
			}
			if !slices.Equal(wholeSecond, beforeSecond) {
				t.Fatal("an argument was changed", wholeSecond, beforeSecond)
			}
		}
		sums, _ := impl.PowerSums(first, 3)
		overwrite(sums)
		impl.DiscriminantOf(first)
		impl.IsSeparable(first)
		impl.IsSmall(first)
		if !slices.Equal(wholeFirst, before) {
			t.Fatal("an argument was changed", wholeFirst, before)
		}
	}
}

// TestResultantsDependOnArgumentsOnly repeats calls, also from several goroutines at once.
func TestResultantsDependOnArgumentsOnly(t *testing.T) {
	list := smallPolynomials(20)
	results := make(chan [2]int64)
	for i, f := range list {
		g := list[len(list)-1-i]
		want, wantCode := impl.ResultantOf(f, g)
		const calls = 20
		for range calls {
			go func() {
				got, code := impl.ResultantOf(f, g)
				results <- [2]int64{got, code}
			}()
		}
		for range calls {
			if got := <-results; got != [2]int64{want, wantCode} {
				t.Error("ResultantOf", f, g, got, want, wantCode)
			}
		}
	}
}
