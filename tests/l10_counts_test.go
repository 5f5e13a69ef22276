package tests

import (
	"cmp"
	"math"
	"math/big"
	"slices"
	"sync"
	"testing"

	"loop.example/g01000/impl"
)

// moebiusTable gives the Moebius numbers of 1..limit: for each number beyond 1, those of all its
// divisors add up to 0.
func moebiusTable(limit int) []int64 {
	table := make([]int64, limit+1)
	table[1] = 1
	for n := 1; n <= limit; n++ {
		for m := 2 * n; m <= limit; m += n {
			table[m] -= table[n]
		}
	}
	return table
}

// monicCount gives the number of all monic polynomials by p of a degree.
func monicCount(p, n int64) *big.Int {
	return term(repeated(p, int(n))...)
}

// exactIrreducibles gives the number of monic irreducible polynomials by p of a degree, by the formula
// with Moebius numbers.
func exactIrreducibles(p, n int64) *big.Int {
	table := moebiusTable(impl.MaxDegree)
	sum := new(big.Int)
	for d := int64(1); d <= n; d++ {
		if n%d == 0 {
			sum.Add(sum, new(big.Int).Mul(big.NewInt(table[d]), monicCount(p, n/d)))
		}
	}
	return sum.Div(sum, big.NewInt(n))
}

// exactSquareFrees gives the number of monic polynomials by p of a degree that no square divides.
func exactSquareFrees(p, n int64) *big.Int {
	count := monicCount(p, n)
	if n >= 2 {
		count.Sub(count, monicCount(p, n-1))
	}
	return count
}

// exactChoices gives the number of ways to choose irreducible polynomials by p with these degrees.
func exactChoices(p int64, degrees []int64) *big.Int {
	times := map[int64]int64{}
	for _, d := range degrees {
		times[d]++
	}
	count := big.NewInt(1)
	for d, k := range times {
		count.Mul(count, new(big.Int).Binomial(exactIrreducibles(p, d).Int64(), k))
	}
	return count
}

// fittedCount gives a count, or 0 and ErrLimit if it is too great.
func fittedCount(n *big.Int) (int64, int64) {
	if n.Cmp(big.NewInt(impl.MaxCount)) > 0 {
		return 0, impl.ErrLimit
	}
	return n.Int64(), impl.ErrNone
}

// degreeLists gives all lists of numbers of at least least that do not decrease and have this sum.
func degreeLists(sum, least int64) [][]int64 {
	if sum == 0 {
		return [][]int64{{}}
	}
	lists := [][]int64{}
	for first := least; first <= sum; first++ {
		for _, rest := range degreeLists(sum-first, first) {
			lists = append(lists, append([]int64{first}, rest...))
		}
	}
	return lists
}

// someDegreeLists gives all lists of degrees of the sums 0..MaxDegree.
func someDegreeLists() [][]int64 {
	lists := [][]int64{}
	for sum := range int64(impl.MaxDegree + 1) {
		lists = append(lists, degreeLists(sum, 1)...)
	}
	return lists
}

// digitsAt gives the digits of a number to the base p, the least first, without zeros at the end.
func digitsAt(p, number int64) []int64 {
	f := []int64{}
	for power := int64(1); power <= number; power *= p {
		f = append(f, number/power%p)
	}
	return f
}

func TestConstantsOfCounts(t *testing.T) {
	if impl.MaxCount != 1000000000 {
		t.Error("MaxCount", impl.MaxCount)
	}
}

func TestMoebiusNumbers(t *testing.T) {
	for n, want := range moebiusTable(largestFactored) {
		if n == 0 || n > 100000 && n%7 != 1 && n < largestFactored-100 {
			continue
		}
		if got, code := impl.MoebiusOf(int64(n)); got != want || code != impl.ErrNone {
			t.Fatal("MoebiusOf", n, got, code, want)
		}
	}
}

func TestMoebiusOf(t *testing.T) {
	wants := map[int64][]int64{
		// Products of an odd number of primes, and of an even one, 1 among them.
		-1: {2, 3, 5, 97, 101, 499979, 999983, 30, 42, 70, 105, 1001, 285, 2310, 510510, 746130},
		1:  {1, 6, 10, 15, 35, 1003, 988027, 999958, 210, 330, 30030, 39270},
		// Squares, other powers, and their multiples.
		0: {4, 9, 25, 9409, 994009, 8, 16, 27, 524288, 531441, 12, 18, 20, 45, 50, 98, 60, 90, 36, 100, 900, 180, 999999, 999992, 1000000},
	}
	for want, list := range wants {
		for _, n := range list {
			if got, code := impl.MoebiusOf(n); got != want || code != impl.ErrNone {
				t.Error("MoebiusOf", n, got, code, want)
			}
		}
	}
	for _, n := range append(notValues(), 0, -1, -2, -6, -4, -1000000, 1000001, 1000002, 1000003, 1<<32, 1<<32+1, 1<<32+6, impl.MaxValue, -impl.MaxValue) {
		if got, code := impl.MoebiusOf(n); got != 0 || code != impl.ErrRange {
			t.Error("MoebiusOf", n, got, code)
		}
	}
}

func TestPromise11CountsOfIrreduciblesAreExact(t *testing.T) {
	codes := map[int64]int{}
	for _, p := range basePrimes() {
		sums := map[int64]int64{}
		for n := int64(1); n <= impl.MaxDegree; n++ {
			want, wantCode := fittedCount(exactIrreducibles(p, n))
			codes[wantCode]++
			got, code := impl.CountIrreducibles(p, n)
			if got != want || code != wantCode {
				t.Fatal("CountIrreducibles", p, n, got, code, want, wantCode)
			}
			for m := n; m <= impl.MaxDegree; m += n {
				sums[m] += n * got
			}
			if code == impl.ErrNone && monicCount(p, n).Cmp(big.NewInt(sums[n])) != 0 {
				t.Fatal("degrees times counts", p, n, sums)
			}
		}
	}
	if codes[impl.ErrNone] < 150 || codes[impl.ErrLimit] < 40 {
		t.Error("codes of counts", codes)
	}
}

func TestSquareFreesAreCountedExactly(t *testing.T) {
	codes := map[int64]int{}
	for _, p := range basePrimes() {
		for n := range int64(impl.MaxDegree + 1) {
			want, wantCode := fittedCount(exactSquareFrees(p, n))
			codes[wantCode]++
			if got, code := impl.CountSquareFrees(p, n); got != want || code != wantCode {
				t.Fatal("CountSquareFrees", p, n, got, code, want, wantCode)
			}
		}
	}
	if codes[impl.ErrNone] < 150 || codes[impl.ErrLimit] < 40 {
		t.Error("codes of counts", codes)
	}
}

// TestPromise11CountsWithDegreesAreExact also adds the counts of all lists with one sum.
func TestPromise11CountsWithDegreesAreExact(t *testing.T) {
	codes, none := map[int64]int{}, 0
	for _, p := range basePrimes() {
		for n := range int64(impl.MaxDegree + 1) {
			sum, isWhole := int64(0), true
			for _, degrees := range degreeLists(n, 1) {
				want, wantCode := fittedCount(exactChoices(p, degrees))
				codes[wantCode]++
				got, code := impl.CountWithDegrees(p, degrees)
				if got != want || code != wantCode {
					t.Fatal("CountWithDegrees", p, degrees, got, code, want, wantCode)
				}
				if code == impl.ErrNone && got == 0 {
					none++
				}
				sum += got
				isWhole = isWhole && code == impl.ErrNone
			}
			if isWhole && exactSquareFrees(p, n).Cmp(big.NewInt(sum)) != 0 {
				t.Fatal("sums of counts", p, n, sum)
			}
		}
	}
	if codes[impl.ErrNone] < 900 || codes[impl.ErrLimit] < 500 || none < 40 {
		t.Error("codes of counts", codes, none)
	}
}

// TestPromise11AllShortPolynomialsAreCounted goes through all monic polynomials of some degrees.
func TestPromise11AllShortPolynomialsAreCounted(t *testing.T) {
	for p, most := range map[int64]int{2: 8, 3: 8, 5: 5, 7: 4, 11: 3, 97: 2} {
		irreducible, squareFree, with := map[int]int64{}, map[int]int64{0: 1}, map[string]int64{"": 1}
		for _, f := range monicOf(p, most+1) {
			list, code := impl.DegreesOf(p, f)
			isFree, two := impl.IsSquareFree(p, f)
			if code != impl.ErrNone || two != impl.ErrNone {
				t.Fatal("degrees", p, f, code, two)
			}
			if len(list) == 1 {
				irreducible[len(f)-1]++
			}
			if isFree {
				squareFree[len(f)-1]++
				with[listText(list)]++
			}
		}
		for n := range most + 1 {
			if got, code := impl.CountSquareFrees(p, int64(n)); got != squareFree[n] || code != impl.ErrNone {
				t.Error("CountSquareFrees", p, n, got, code, squareFree[n])
			}
			if got, code := impl.CountIrreducibles(p, int64(n)); n > 0 && (got != irreducible[n] || code != impl.ErrNone) {
				t.Error("CountIrreducibles", p, n, got, code, irreducible[n])
			}
			for _, degrees := range degreeLists(int64(n), 1) {
				if got, code := impl.CountWithDegrees(p, degrees); got != with[listText(degrees)] || code != impl.ErrNone {
					t.Error("CountWithDegrees", p, degrees, got, code, with[listText(degrees)])
				}
			}
		}
	}
}

// listText gives a text of a list of numbers below 10.
func listText(list []int64) string {
	text := ""
	for _, n := range list {
		text += string(rune('0' + n))
	}
	return text
}

func TestCountIrreducibles(t *testing.T) {
	for _, c := range []struct{ p, n, want, code int64 }{
		{2, 3, 2, impl.ErrNone}, {2, 1, 2, impl.ErrNone}, {2, 2, 1, impl.ErrNone}, {2, 4, 3, impl.ErrNone}, {2, 6, 9, impl.ErrNone}, {2, 8, 30, impl.ErrNone}, {3, 1, 3, impl.ErrNone}, {3, 2, 3, impl.ErrNone}, {3, 6, 116, impl.ErrNone}, {3, 8, 810, impl.ErrNone},
		{97, 1, 97, impl.ErrNone}, {97, 2, 4656, impl.ErrNone}, {97, 3, 304192, impl.ErrNone}, {97, 4, 22129968, impl.ErrNone}, {97, 5, 0, impl.ErrLimit}, {97, 8, 0, impl.ErrLimit},
		// The greatest counts, and the least ones that are too great.
		{83, 5, 787808112, impl.ErrNone}, {89, 5, 0, impl.ErrLimit}, {41, 6, 791672280, impl.ErrNone}, {43, 6, 0, impl.ErrLimit}, {23, 7, 486403632, impl.ErrNone}, {29, 7, 0, impl.ErrLimit}, {17, 8, 871959240, impl.ErrNone}, {19, 8, 0, impl.ErrLimit},
	} {
		if got, code := impl.CountIrreducibles(c.p, c.n); got != c.want || code != c.code {
			t.Error("CountIrreducibles", c.p, c.n, got, code, c.want, c.code)
		}
	}
}

func TestCountSquareFrees(t *testing.T) {
	for _, c := range []struct{ p, n, want, code int64 }{
		{2, 2, 2, impl.ErrNone}, {2, 0, 1, impl.ErrNone}, {2, 1, 2, impl.ErrNone}, {2, 8, 128, impl.ErrNone}, {3, 0, 1, impl.ErrNone}, {3, 1, 3, impl.ErrNone}, {3, 2, 6, impl.ErrNone}, {3, 8, 4374, impl.ErrNone},
		{97, 0, 1, impl.ErrNone}, {97, 1, 97, impl.ErrNone}, {97, 2, 9312, impl.ErrNone}, {97, 4, 87616608, impl.ErrNone}, {97, 5, 0, impl.ErrLimit}, {97, 8, 0, impl.ErrLimit},
		// For 67 and 5 already the power is too great, for 61 and 5 neither is.
		{61, 5, 830750460, impl.ErrNone}, {67, 5, 0, impl.ErrLimit}, {31, 6, 858874530, impl.ErrNone}, {37, 6, 0, impl.ErrLimit}, {19, 7, 846825858, impl.ErrNone}, {23, 7, 0, impl.ErrLimit}, {13, 8, 752982204, impl.ErrNone}, {17, 8, 0, impl.ErrLimit},
	} {
		if got, code := impl.CountSquareFrees(c.p, c.n); got != c.want || code != c.code {
			t.Error("CountSquareFrees", c.p, c.n, got, code, c.want, c.code)
		}
	}
}

func TestCountWithDegrees(t *testing.T) {
	for _, c := range []struct {
		p       int64
		degrees []int64
		want    int64
		code    int64
	}{
		{2, []int64{1, 1}, 1, impl.ErrNone},
		// No factors, and one.
		{2, nil, 1, impl.ErrNone}, {97, []int64{}, 1, impl.ErrNone}, {2, []int64{1}, 2, impl.ErrNone}, {97, []int64{1}, 97, impl.ErrNone}, {97, []int64{4}, 22129968, impl.ErrNone}, {2, []int64{8}, 30, impl.ErrNone}, {3, []int64{8}, 810, impl.ErrNone},
		// Equal degrees, as many as there are irreducible polynomials, and one or more beyond.
		{2, []int64{1, 1, 1}, 0, impl.ErrNone}, {2, repeated(1, 8), 0, impl.ErrNone}, {2, []int64{2, 2}, 0, impl.ErrNone}, {2, repeated(2, 4), 0, impl.ErrNone}, {2, []int64{3, 3}, 1, impl.ErrNone}, {2, []int64{4, 4}, 3, impl.ErrNone}, {3, []int64{1, 1}, 3, impl.ErrNone}, {3, repeated(1, 3), 1, impl.ErrNone}, {3, repeated(1, 4), 0, impl.ErrNone}, {3, repeated(1, 6), 0, impl.ErrNone}, {3, repeated(2, 3), 1, impl.ErrNone}, {3, repeated(2, 4), 0, impl.ErrNone},
		{5, repeated(1, 5), 1, impl.ErrNone}, {5, repeated(1, 6), 0, impl.ErrNone}, {7, repeated(1, 7), 1, impl.ErrNone}, {7, repeated(1, 8), 0, impl.ErrNone}, {11, repeated(1, 8), 165, impl.ErrNone},
		// Several degrees, with 0 ways for one of them.
		{2, []int64{1, 2, 3}, 4, impl.ErrNone}, {2, []int64{1, 1, 2, 3}, 2, impl.ErrNone}, {2, []int64{1, 1, 1, 2, 3}, 0, impl.ErrNone}, {2, []int64{1, 2, 2, 3}, 0, impl.ErrNone}, {2, []int64{1, 1, 3, 3}, 1, impl.ErrNone}, {3, []int64{1, 1, 2, 2}, 9, impl.ErrNone}, {3, []int64{1, 1, 2, 4}, 162, impl.ErrNone}, {3, []int64{1, 1, 1, 1, 4}, 0, impl.ErrNone}, {5, []int64{1, 1, 3, 3}, 7800, impl.ErrNone},
		// The greatest counts, and some that are too great.
		{17, []int64{1, 7}, 996536736, impl.ErrNone}, {97, repeated(1, 6), 988172368, impl.ErrNone}, {83, []int64{1, 4}, 984617214, impl.ErrNone}, {29, []int64{1, 3, 3}, 955931060, impl.ErrNone}, {61, repeated(2, 3), 0, impl.ErrLimit}, {43, []int64{1, 2, 3}, 0, impl.ErrLimit}, {31, []int64{1, 1, 1, 4}, 0, impl.ErrLimit},
		{97, []int64{5}, 0, impl.ErrLimit}, {97, []int64{8}, 0, impl.ErrLimit}, {97, repeated(1, 7), 0, impl.ErrLimit}, {97, repeated(1, 8), 0, impl.ErrLimit}, {97, []int64{1, 7}, 0, impl.ErrLimit}, {97, repeated(2, 4), 0, impl.ErrLimit}, {97, []int64{4, 4}, 0, impl.ErrLimit},
	} {
		if got, code := impl.CountWithDegrees(c.p, c.degrees); got != c.want || code != c.code {
			t.Error("CountWithDegrees", c.p, c.degrees, got, code, c.want, c.code)
		}
	}
}

// notDegrees gives lists that miss each condition for lists of degrees alone, and some that miss several.
func notDegrees() [][]int64 {
	const most = impl.MaxDegree
	lists := [][]int64{
		{0}, {0, 0}, {0, 1}, {0, 8}, {-1}, {-1, 1}, {-1, 1, 8}, {-8}, {-1, -1}, {0, 0, 8}, {most + 1}, {-1, most + 1},
		{2, 1}, {7, 1}, {1, 2, 1}, {1, 3, 2}, {3, 3, 2}, {2, 2, 1, 1}, {4, 2, 2}, {1, 1, 1, 2, 1}, {1, 0}, {8, 0}, {1, -1}, {8, -1, 1},
		{1, 8}, {4, 5}, {3, 3, 3}, {1, 1, 7}, {2, 2, 2, 3}, repeated(1, most+1), {8, 8}, {1, 2, 3, 4}, {8, 1}, {5, 4}, {9, 9},
		repeated(1, 100000), repeated(8, 100000), repeated(0, 100000), repeated(-1, 100000), append(repeated(1, 100000), 9),
		repeated(1<<61, 8), repeated(1<<60, 16), repeated(1<<32, 1<<16), {1, math.MaxInt64, math.MaxInt64, 2}, {math.MaxInt64, math.MaxInt64, 8}, {math.MinInt64, math.MinInt64}, {math.MinInt64, math.MinInt64, 4}, {1<<62 + 1, 1<<62 + 1, 1<<62 + 1, 1<<62 + 1}, {math.MinInt64, -1, 2, math.MaxInt64},
	}
	for _, n := range append(notValues(), 1<<32, 1<<32+1, 256, 257) {
		lists = append(lists, []int64{n}, []int64{1, n}, []int64{n, 1}, []int64{n, n}, []int64{1, n, n}, []int64{1, n, 8})
	}
	return lists
}

// countCall is a function of a prime and a number in a range. It tells whether its result beside the
// code is 0.
type countCall struct {
	name        string
	least, most int64
	ask         func(p, n int64) (isZero bool, code int64)
}

func countCalls() []countCall {
	return []countCall{
		{"CountIrreducibles", 1, impl.MaxDegree, func(p, n int64) (bool, int64) {
			got, code := impl.CountIrreducibles(p, n)
			return got == 0, code
		}},
		{"CountSquareFrees", 0, impl.MaxDegree, func(p, n int64) (bool, int64) {
			got, code := impl.CountSquareFrees(p, n)
			return got == 0, code
		}},
		{"FirstIrreducible", 1, 4, func(p, n int64) (bool, int64) {
			got, code := impl.FirstIrreducible(p, n)
			return len(got) == 0, code
		}},
		{"PolynomialWith", 0, impl.MaxCount, func(p, n int64) (bool, int64) {
			got, code := impl.PolynomialWith(p, n)
			return len(got) == 0, code
		}},
	}
}

// TestErrorsOfCounts gives also numbers out of their ranges together with what is no prime.
func TestErrorsOfCounts(t *testing.T) {
	for _, c := range countCalls() {
		outside := append(notValues(), c.least-1, c.least-2, -c.most, c.most+1, c.most+2, 1<<32, 1<<32+c.least, 1<<32+c.most, impl.MaxValue, -impl.MaxValue)
		for _, p := range basePrimes() {
			for _, n := range outside {
				if isZero, code := c.ask(p, n); !isZero || code != impl.ErrRange {
					t.Fatal(c.name, p, n, isZero, code)
				}
			}
		}
		for _, p := range notPrimes() {
			for _, n := range append(outside, c.least, c.most) {
				if isZero, code := c.ask(p, n); !isZero || code != impl.ErrInvalid {
					t.Fatal(c.name, p, n, isZero, code)
				}
			}
		}
	}
}

func TestErrorsOfCountWithDegrees(t *testing.T) {
	for _, p := range basePrimes() {
		for _, degrees := range notDegrees() {
			if got, code := impl.CountWithDegrees(p, degrees); got != 0 || code != impl.ErrRange {
				t.Fatal("CountWithDegrees", p, len(degrees), degrees[:min(9, len(degrees))], got, code)
			}
		}
	}
	for _, p := range notPrimes() {
		for _, degrees := range append(notDegrees(), someDegreeLists()...) {
			if got, code := impl.CountWithDegrees(p, degrees); got != 0 || code != impl.ErrInvalid {
				t.Fatal("CountWithDegrees", p, len(degrees), degrees[:min(9, len(degrees))], got, code)
			}
		}
	}
}

// monicInOrder gives all monic polynomials by p of a degree in the order of chapter 9.
func monicInOrder(p int64, degree int) [][]int64 {
	list := [][]int64{}
	for _, f := range digitLists(p, degree) {
		list = append(list, append(f, 1))
	}
	slices.SortFunc(list, func(f, g []int64) int {
		return cmp.Compare(orderOf(p, f, g), 0)
	})
	return list
}

// TestPromise11AllIrreduciblesInOrder asks behind all monic polynomials of some degrees.
func TestPromise11AllIrreduciblesInOrder(t *testing.T) {
	for _, p := range basePrimes() {
		most := 2
		if p <= 13 {
			most = 3
		}
		if p <= 7 {
			most = 4
		}
		for degree := 1; degree <= most; degree++ {
			list := monicInOrder(p, degree)
			next, count := []int64{}, int64(0)
			for _, f := range slices.Backward(list) {
				wantCode := int64(impl.ErrNone)
				if len(next) == 0 {
					wantCode = impl.ErrNotFound
				}
				if got, code := impl.NextIrreducible(p, f); !isModularResult(p, got, code, next, wantCode) {
					t.Fatal("NextIrreducible", p, f, got, code, next, wantCode)
				}
				if isIrreducibleExact(p, f) {
					next = f
					count++
				}
			}
			if got, code := impl.FirstIrreducible(p, int64(degree)); !isModularResult(p, got, code, next, impl.ErrNone) {
				t.Fatal("FirstIrreducible", p, degree, got, code, next)
			}
			if got, code := impl.CountIrreducibles(p, int64(degree)); got != count || code != impl.ErrNone {
				t.Fatal("CountIrreducibles", p, degree, got, code, count)
			}
		}
	}
}

// TestPromise11OneBehindAnother begins with the first irreducible polynomial of each degree from 1 to 4.
func TestPromise11OneBehindAnother(t *testing.T) {
	for p, most := range map[int64]int64{2: 4, 3: 4, 5: 4, 7: 4, 11: 4, 13: 3, 97: 2} {
		for degree := int64(1); degree <= most; degree++ {
			want, _ := impl.CountIrreducibles(p, degree)
			f, code := impl.FirstIrreducible(p, degree)
			count := int64(0)
			for code == impl.ErrNone && count <= want {
				count++
				irreducible, two := impl.IsIrreducible(p, f)
				next, three := impl.NextIrreducible(p, f)
				if !irreducible || two != impl.ErrNone || int64(len(f)) != degree+1 || f[degree] != 1 {
					t.Fatal("an irreducible polynomial", p, degree, f, irreducible, two)
				}
				if three == impl.ErrNone && orderOf(p, f, next) != -1 {
					t.Fatal("NextIrreducible", p, f, next)
				}
				f, code = next, three
			}
			if count != want || code != impl.ErrNotFound || len(f) != 0 {
				t.Error("irreducible polynomials", p, degree, count, want, f, code)
			}
		}
	}
}

// moved gives the monic polynomial by p of the same degree that is so many steps behind f, or none.
func moved(p int64, f []int64, steps int64) []int64 {
	g := digitsAt(p, digitsValue(p, f)+steps)
	if len(g) != len(f) || g[len(g)-1] != 1 {
		return nil
	}
	return g
}

// irreducibleBehind gives the first irreducible polynomial behind f, or before it for steps of -1, and
// the number of steps.
func irreducibleBehind(p int64, f []int64, step int64) ([]int64, int64) {
	count := int64(0)
	for {
		f = moved(p, f, step)
		count++
		if len(f) == 0 || isIrreducibleExact(p, f) {
			return f, count
		}
	}
}

func TestPromise11IrreduciblesByGreatPrimes(t *testing.T) {
	for _, p := range basePrimes() {
		step := coefficientSteps(uint64(p) + 10)
		for length := 4; length <= 5; length++ {
			x := append(make([]int64, length-1), 1)
			last := append(repeated(p-1, length-1), 1)
			want := x
			if !isIrreducibleExact(p, x) {
				want, _ = irreducibleBehind(p, x, 1)
			}
			if got, code := impl.FirstIrreducible(p, int64(length-1)); !isModularResult(p, got, code, want, impl.ErrNone) {
				t.Fatal("FirstIrreducible", p, length-1, got, code, want)
			}
			list := [][]int64{x, append(make([]int64, length-2), 1, 1), append(repeated(p-1, length-2), 0, 1), append(repeated(p-1, length-3), 0, 0, 1)}
			for range 12 {
				f := append(make([]int64, length-1), 1)
				for i := range length - 1 {
					f[i] = (step(p) + p) % p
				}
				list = append(list, f)
			}
			for _, f := range list {
				want, count := irreducibleBehind(p, f, 1)
				if len(want) == 0 {
					continue
				}
				// All on the way have the same next one.
				for i := range count {
					if got, code := impl.NextIrreducible(p, moved(p, f, i)); !isModularResult(p, got, code, want, impl.ErrNone) {
						t.Fatal("NextIrreducible", p, moved(p, f, i), got, code, want)
					}
				}
			}
			// The last irreducible one, and all behind it.
			found := last
			if !isIrreducibleExact(p, last) {
				found, _ = irreducibleBehind(p, last, -1)
			}
			before, _ := irreducibleBehind(p, found, -1)
			if got, code := impl.NextIrreducible(p, before); len(before) > 0 && !isModularResult(p, got, code, found, impl.ErrNone) {
				t.Fatal("NextIrreducible", p, before, got, code, found)
			}
			for f := found; len(f) > 0; f = moved(p, f, 1) {
				if got, code := impl.NextIrreducible(p, f); len(got) != 0 || code != impl.ErrNotFound {
					t.Fatal("NextIrreducible", p, f, got, code)
				}
			}
		}
	}
}

func TestFirstIrreducible(t *testing.T) {
	for _, c := range []struct {
		p, n int64
		want []int64
	}{
		{2, 1, []int64{0, 1}}, {2, 2, []int64{1, 1, 1}}, {2, 3, []int64{1, 1, 0, 1}}, {2, 4, []int64{1, 1, 0, 0, 1}},
		{3, 1, []int64{0, 1}}, {3, 2, []int64{1, 0, 1}}, {3, 3, []int64{1, 2, 0, 1}}, {3, 4, []int64{2, 1, 0, 0, 1}},
		{5, 2, []int64{2, 0, 1}}, {7, 3, []int64{2, 0, 0, 1}}, {97, 1, []int64{0, 1}}, {97, 2, []int64{5, 0, 1}}, {97, 3, []int64{2, 0, 0, 1}}, {97, 4, []int64{5, 0, 0, 0, 1}},
	} {
		if got, code := impl.FirstIrreducible(c.p, c.n); !isModularResult(c.p, got, code, c.want, impl.ErrNone) {
			t.Error("FirstIrreducible", c.p, c.n, got, code, c.want)
		}
	}
}

func TestNextIrreducible(t *testing.T) {
	for _, c := range []struct {
		p       int64
		f, want []int64
		code    int64
	}{
		{2, []int64{1, 1, 0, 1}, []int64{1, 0, 1, 1}, impl.ErrNone}, {2, []int64{1, 0, 1, 1}, nil, impl.ErrNotFound},
		// The degree 1: all are irreducible.
		{2, []int64{0, 1}, []int64{1, 1}, impl.ErrNone}, {2, []int64{1, 1}, nil, impl.ErrNotFound}, {3, []int64{1, 1}, []int64{2, 1}, impl.ErrNone}, {97, []int64{0, 1}, []int64{1, 1}, impl.ErrNone}, {97, []int64{95, 1}, []int64{96, 1}, impl.ErrNone}, {97, []int64{96, 1}, nil, impl.ErrNotFound},
		// Behind those that are not irreducible.
		{2, []int64{0, 0, 1}, []int64{1, 1, 1}, impl.ErrNone}, {2, []int64{1, 0, 1}, []int64{1, 1, 1}, impl.ErrNone}, {2, []int64{0, 0, 0, 0, 1}, []int64{1, 1, 0, 0, 1}, impl.ErrNone}, {2, []int64{0, 1, 0, 1, 1}, []int64{1, 1, 1, 1, 1}, impl.ErrNone}, {3, []int64{2, 0, 1}, []int64{2, 1, 1}, impl.ErrNone}, {97, []int64{0, 0, 1}, []int64{5, 0, 1}, impl.ErrNone},
		// Behind irreducible ones.
		{2, []int64{1, 1, 0, 0, 1}, []int64{1, 0, 0, 1, 1}, impl.ErrNone}, {2, []int64{1, 0, 0, 1, 1}, []int64{1, 1, 1, 1, 1}, impl.ErrNone}, {3, []int64{1, 0, 1}, []int64{2, 1, 1}, impl.ErrNone}, {3, []int64{2, 1, 1}, []int64{2, 2, 1}, impl.ErrNone}, {97, []int64{5, 0, 1}, []int64{7, 0, 1}, impl.ErrNone},
		// None is left over.
		{2, []int64{1, 1, 1}, nil, impl.ErrNotFound}, {2, []int64{0, 1, 1, 1}, nil, impl.ErrNotFound}, {2, []int64{1, 1, 1, 1}, nil, impl.ErrNotFound}, {2, []int64{1, 1, 1, 1, 1}, nil, impl.ErrNotFound}, {3, []int64{2, 2, 1}, nil, impl.ErrNotFound}, {97, append(repeated(96, 2), 1), nil, impl.ErrNotFound}, {97, append(repeated(96, 3), 1), nil, impl.ErrNotFound}, {97, append(repeated(96, 4), 1), nil, impl.ErrNotFound},
	} {
		if got, code := impl.NextIrreducible(c.p, c.f); !isModularResult(c.p, got, code, c.want, c.code) {
			t.Error("NextIrreducible", c.p, c.f, got, code, c.want, c.code)
		}
	}
}

// TestErrorsOfNextIrreducible gives also lists that are no polynomials, not monic and too long.
func TestErrorsOfNextIrreducible(t *testing.T) {
	check := func(p int64, f []int64, want int64) {
		t.Helper()
		if got, code := impl.NextIrreducible(p, f); len(got) != 0 || code != want {
			t.Fatal("NextIrreducible", p, f, got, code, want)
		}
	}
	for _, p := range basePrimes() {
		check(p, nil, impl.ErrRange)
		check(p, []int64{}, impl.ErrRange)
		for last := int64(1); last < p; last++ {
			check(p, []int64{last}, impl.ErrRange)
			for length := 1; length <= impl.MaxDegree; length++ {
				if last > 1 || length > 4 {
					check(p, append(make([]int64, length), last), impl.ErrRange)
					check(p, append(repeated(1, length), last), impl.ErrRange)
					check(p, append(repeated(p-1, length), last), impl.ErrRange)
				}
			}
		}
		for _, f := range notModular(p) {
			check(p, f, impl.ErrInvalid)
		}
	}
	for _, p := range notPrimes() {
		for _, f := range slices.Concat([][]int64{nil, {}, {1}, {2}, {0, 1}, {1, 1}, {1, 2}, {1, 1, 1}, repeated(1, 5), repeated(1, 6), repeated(1, 9)}, notModular(5)) {
			check(p, f, impl.ErrInvalid)
		}
	}
}

func TestPromise11PolynomialsAreRecovered(t *testing.T) {
	codes := map[int64]int{}
	for p, list := range manyModular() {
		for _, f := range append(list, []int64{}, []int64{1}, []int64{p - 1}, []int64{0, p - 1}) {
			want, wantCode := fittedCount(big.NewInt(digitsValue(p, f)))
			codes[wantCode]++
			number, code := impl.NumberOf(p, f)
			if number != want || code != wantCode {
				t.Fatal("NumberOf", p, f, number, code, want, wantCode)
			}
			if code != impl.ErrNone {
				continue
			}
			if got, two := impl.PolynomialWith(p, number); !isModularResult(p, got, two, f, impl.ErrNone) {
				t.Fatal("PolynomialWith", p, number, got, two, f)
			}
		}
	}
	if codes[impl.ErrNone] < 500 || codes[impl.ErrLimit] < 300 {
		t.Error("codes of numbers", codes)
	}
}

// someNumbers gives numbers of polynomials by p, those near the powers of p among them.
func someNumbers(p int64) []int64 {
	list := []int64{}
	for n := range int64(2000) {
		list = append(list, n, impl.MaxCount-n, n*n*239)
	}
	for power := p; power <= impl.MaxCount; power *= p {
		for n := max(power-3, 0); n <= min(power+3, impl.MaxCount); n++ {
			list = append(list, n)
		}
		for _, n := range []int64{2*power - 1, 2 * power, (p - 1) * power, p*power - 1} {
			list = append(list, min(n, impl.MaxCount))
		}
	}
	return list
}

func TestPromise11NumbersAreRecovered(t *testing.T) {
	codes := map[int64]int{}
	for _, p := range basePrimes() {
		for _, n := range someNumbers(p) {
			want, wantCode := digitsAt(p, n), int64(impl.ErrNone)
			if len(want) > impl.MaxDegree+1 {
				want, wantCode = nil, impl.ErrLimit
			}
			codes[wantCode]++
			f, code := impl.PolynomialWith(p, n)
			if !isModularResult(p, f, code, want, wantCode) {
				t.Fatal("PolynomialWith", p, n, f, code, want, wantCode)
			}
			if code != impl.ErrNone {
				continue
			}
			if number, two := impl.NumberOf(p, f); number != n || two != impl.ErrNone {
				t.Fatal("NumberOf", p, f, number, two, n)
			}
		}
	}
	if codes[impl.ErrNone] < 100000 || codes[impl.ErrLimit] < 5000 {
		t.Error("codes of polynomials", codes)
	}
}

func TestNumberOf(t *testing.T) {
	for _, c := range []struct {
		p    int64
		f    []int64
		want int64
		code int64
	}{
		{2, []int64{1, 1, 0, 1}, 11, impl.ErrNone}, {2, nil, 0, impl.ErrNone}, {97, []int64{}, 0, impl.ErrNone}, {2, []int64{1}, 1, impl.ErrNone}, {97, []int64{96}, 96, impl.ErrNone}, {2, []int64{0, 1}, 2, impl.ErrNone}, {97, []int64{0, 1}, 97, impl.ErrNone}, {97, []int64{1, 1}, 98, impl.ErrNone}, {5, []int64{4, 3, 2}, 69, impl.ErrNone},
		// Polynomials of nine coefficients.
		{2, repeated(1, 9), 511, impl.ErrNone}, {2, append(make([]int64, 8), 1), 256, impl.ErrNone}, {3, repeated(2, 9), 19682, impl.ErrNone}, {7, repeated(6, 9), 40353606, impl.ErrNone}, {11, append(make([]int64, 8), 4), 857435524, impl.ErrNone}, {11, append(make([]int64, 8), 5), 0, impl.ErrLimit}, {13, append(make([]int64, 8), 1), 815730721, impl.ErrNone}, {13, append(make([]int64, 8), 2), 0, impl.ErrLimit}, {97, append(make([]int64, 8), 1), 0, impl.ErrLimit}, {97, repeated(96, 9), 0, impl.ErrLimit},
		// MaxCount, and one beyond.
		{97, []int64{34, 21, 66, 28, 11}, 1000000000, impl.ErrNone}, {97, []int64{35, 21, 66, 28, 11}, 0, impl.ErrLimit}, {31, []int64{16, 22, 5, 25, 28, 3, 1}, 1000000000, impl.ErrNone}, {31, []int64{17, 22, 5, 25, 28, 3, 1}, 0, impl.ErrLimit}, {11, []int64{10, 8, 8, 3, 2, 5, 3, 7, 4}, 1000000000, impl.ErrNone}, {11, []int64{0, 9, 8, 3, 2, 5, 3, 7, 4}, 0, impl.ErrLimit},
	} {
		if got, code := impl.NumberOf(c.p, c.f); got != c.want || code != c.code {
			t.Error("NumberOf", c.p, c.f, got, code, c.want, c.code)
		}
	}
	for _, p := range basePrimes() {
		for _, f := range notModular(p) {
			if got, code := impl.NumberOf(p, f); got != 0 || code != impl.ErrInvalid {
				t.Fatal("NumberOf", p, f, got, code)
			}
		}
	}
	for _, p := range notPrimes() {
		for _, f := range slices.Concat([][]int64{nil, {}, {1}, {0, 1}, repeated(1, 9), repeated(96, 9)}, notModular(5)) {
			if got, code := impl.NumberOf(p, f); got != 0 || code != impl.ErrInvalid {
				t.Fatal("NumberOf", p, f, got, code)
			}
		}
	}
}

func TestPolynomialWith(t *testing.T) {
	for _, c := range []struct {
		p, n int64
		want []int64
		code int64
	}{
		{2, 11, []int64{1, 1, 0, 1}, impl.ErrNone},
		// The numbers 0, 1, p - 1, p and p + 1.
		{2, 0, nil, impl.ErrNone}, {97, 0, nil, impl.ErrNone}, {2, 1, []int64{1}, impl.ErrNone}, {97, 1, []int64{1}, impl.ErrNone}, {3, 2, []int64{2}, impl.ErrNone}, {97, 96, []int64{96}, impl.ErrNone}, {2, 2, []int64{0, 1}, impl.ErrNone}, {3, 3, []int64{0, 1}, impl.ErrNone}, {97, 97, []int64{0, 1}, impl.ErrNone}, {2, 3, []int64{1, 1}, impl.ErrNone}, {3, 4, []int64{1, 1}, impl.ErrNone}, {97, 98, []int64{1, 1}, impl.ErrNone},
		// Nine coefficients, and ten.
		{2, 511, repeated(1, 9), impl.ErrNone}, {2, 512, nil, impl.ErrLimit}, {3, 19682, repeated(2, 9), impl.ErrNone}, {3, 19683, nil, impl.ErrLimit}, {5, 1953124, repeated(4, 9), impl.ErrNone}, {5, 1953125, nil, impl.ErrLimit}, {7, 40353606, repeated(6, 9), impl.ErrNone}, {7, 40353607, nil, impl.ErrLimit},
		// MaxCount, one beyond, and -1.
		{97, 1000000000, []int64{34, 21, 66, 28, 11}, impl.ErrNone}, {11, 1000000000, []int64{10, 8, 8, 3, 2, 5, 3, 7, 4}, impl.ErrNone}, {2, 1000000000, nil, impl.ErrLimit}, {7, 1000000000, nil, impl.ErrLimit}, {97, 1000000001, nil, impl.ErrRange}, {2, 1000000001, nil, impl.ErrRange}, {97, -1, nil, impl.ErrRange}, {2, -1, nil, impl.ErrRange}, {2, -512, nil, impl.ErrRange}, {2, math.MinInt64, nil, impl.ErrRange}, {2, math.MaxInt64, nil, impl.ErrRange},
		{4, 11, nil, impl.ErrInvalid}, {4, -1, nil, impl.ErrInvalid}, {101, 1000000001, nil, impl.ErrInvalid}, {0, 0, nil, impl.ErrInvalid}, {1, 5, nil, impl.ErrInvalid}, {-2, 5, nil, impl.ErrInvalid},
	} {
		got, code := impl.PolynomialWith(c.p, c.n)
		if !slices.Equal(got, c.want) || code != c.code {
			t.Error("PolynomialWith", c.p, c.n, got, code, c.want, c.code)
		}
	}
}

// TestCountedPolynomialsShareNoMemory overwrites results, and asks again.
func TestCountedPolynomialsShareNoMemory(t *testing.T) {
	for _, p := range []int64{2, 3, 5, 97} {
		for n := int64(1); n <= 4; n++ {
			first, _ := impl.FirstIrreducible(p, n)
			want := slices.Clone(first)
			argument, whole := spare(append(make([]int64, n), 1))
			before := slices.Clone(whole)
			next, _ := impl.NextIrreducible(p, argument)
			wantNext := slices.Clone(next)
			with, _ := impl.PolynomialWith(p, p+n)
			wantWith := slices.Clone(with)
			impl.NumberOf(p, argument)
			overwrite(first)
			overwrite(next)
			overwrite(with)
			if !slices.Equal(whole, before) {
				t.Fatal("an argument was changed", p, n, whole, before)
			}
			first, _ = impl.FirstIrreducible(p, n)
			next, _ = impl.NextIrreducible(p, argument)
			with, _ = impl.PolynomialWith(p, p+n)
			if !slices.Equal(first, want) || !slices.Equal(next, wantNext) || !slices.Equal(with, wantWith) {
				t.Fatal("results share memory", p, n, first, want, next, wantNext, with, wantWith)
			}
		}
		// The next one behind an irreducible one takes the place of its argument.
		for f, code := impl.FirstIrreducible(p, 1); code == impl.ErrNone; {
			before := slices.Clone(f)
			next, two := impl.NextIrreducible(p, f)
			kept := slices.Clone(next)
			overwrite(next)
			if !slices.Equal(f, before) {
				t.Fatal("an argument was changed", p, f, before)
			}
			f, code = kept, two
		}
		for _, degrees := range append(someDegreeLists(), []int64{2, 1}, []int64{8, 8}, repeated(1, 9)) {
			argument, whole := spare(degrees)
			before := slices.Clone(whole)
			impl.CountWithDegrees(p, argument)
			if !slices.Equal(whole, before) {
				t.Fatal("an argument was changed", p, whole, before)
			}
		}
	}
}

// countsOf gives what all functions of chapter 10 return for some arguments.
func countsOf(p int64) []int64 {
	list := []int64{}
	for n := range int64(impl.MaxDegree + 1) {
		moebius, _ := impl.MoebiusOf(n + p)
		irreducible, _ := impl.CountIrreducibles(p, n)
		squareFree, _ := impl.CountSquareFrees(p, n)
		list = append(list, moebius, irreducible, squareFree)
		first, _ := impl.FirstIrreducible(p, n)
		next, _ := impl.NextIrreducible(p, first)
		number, _ := impl.NumberOf(p, next)
		with, _ := impl.PolynomialWith(p, number)
		list = slices.Concat(list, first, next, []int64{number}, with)
	}
	for _, degrees := range someDegreeLists() {
		count, code := impl.CountWithDegrees(p, degrees)
		list = append(list, count, code)
	}
	return list
}

// TestCountsDependOnArgumentsOnly asks for all primes forwards, backwards, and at the same time.
func TestCountsDependOnArgumentsOnly(t *testing.T) {
	primes, want := basePrimes(), map[int64][]int64{}
	for _, p := range primes {
		want[p] = countsOf(p)
	}
	for _, p := range slices.Backward(primes) {
		if !slices.Equal(countsOf(p), want[p]) {
			t.Fatal("counts of a second time", p)
		}
	}
	var work sync.WaitGroup
	for range 8 {
		work.Go(func() {
			for _, p := range primes {
				if !slices.Equal(countsOf(p), want[p]) {
					t.Error("counts at the same time", p)
				}
			}
		})
	}
	work.Wait()
}
