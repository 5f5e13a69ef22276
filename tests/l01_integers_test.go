package tests

import (
	"math"
	"math/big"
	"slices"
	"strconv"
	"strings"
	"testing"

	"loop.example/g01000/impl"
)

const largestFactored = 1000000

// notValues are integers outside of -MaxValue..MaxValue.
func notValues() []int64 {
	return []int64{impl.MaxValue + 1, -impl.MaxValue - 1, math.MaxInt64, math.MinInt64}
}

// primeTable tells by a sieve which of the numbers 0..limit are primes.
func primeTable(limit int) []bool {
	isPrime := make([]bool, limit+1)
	for n := 2; n <= limit; n++ {
		isPrime[n] = true
	}
	for n := 2; n*n <= limit; n++ {
		for m := n * n; isPrime[n] && m <= limit; m += n {
			isPrime[m] = false
		}
	}
	return isPrime
}

// firstPowers gives the first count primes, all with one exponent.
func firstPowers(count int, exponent int64) []impl.Power {
	list := []impl.Power{}
	for n, prime := range primeTable(1000) {
		if prime && len(list) < count {
			list = append(list, impl.Power{Prime: int64(n), Exponent: exponent})
		}
	}
	return list
}

func TestConstants(t *testing.T) {
	codes := []int64{impl.ErrNone, impl.ErrInvalid, impl.ErrRange, impl.ErrLimit, impl.ErrNotFound, impl.ErrState, impl.ErrSyntax}
	if !slices.Equal(codes, []int64{0, 1, 2, 3, 4, 5, 6}) {
		t.Error("error codes", codes)
	}
	if impl.MaxValue != 1000000000000 || impl.MaxPrime != 97 || impl.MaxList != 60 {
		t.Error("limits", int64(impl.MaxValue), impl.MaxPrime, impl.MaxList)
	}
}

func TestIsPrime(t *testing.T) {
	for n, want := range primeTable(largestFactored) {
		if impl.IsPrime(int64(n)) != want {
			t.Fatal("IsPrime", n, "is not", want)
		}
	}
	// 1000003 is a prime number, but beyond the range.
	for _, n := range append(notValues(), 1000001, 1000003, -1, -2, -7, impl.MaxValue) {
		if impl.IsPrime(n) {
			t.Error("IsPrime accepts", n)
		}
	}
}

func TestCommonDivisor(t *testing.T) {
	for a := int64(-40); a <= 40; a++ {
		for b := int64(-40); b <= 40; b++ {
			want := int64(0)
			for d := int64(1); d <= 40; d++ {
				if a%d == 0 && b%d == 0 && (a != 0 || b != 0) {
					want = d
				}
			}
			if got, code := impl.CommonDivisor(a, b); got != want || code != impl.ErrNone {
				t.Fatal("CommonDivisor", a, b, got, code)
			}
		}
	}
	for _, c := range [][3]int64{
		{0, 0, 0},
		{impl.MaxValue, 0, impl.MaxValue},
		{0, -impl.MaxValue, impl.MaxValue},
		{-impl.MaxValue, -impl.MaxValue, impl.MaxValue},
		{impl.MaxValue, impl.MaxValue - 1, 1},
		{impl.MaxValue, 1 << 39, 1 << 12},
		{956722026041, 591286729879, 1},
	} {
		if got, code := impl.CommonDivisor(c[0], c[1]); got != c[2] || code != impl.ErrNone {
			t.Error("CommonDivisor", c, got, code)
		}
	}
	for _, n := range notValues() {
		for _, pair := range [][2]int64{{n, 6}, {6, n}, {n, 0}, {0, n}, {n, n}} {
			if got, code := impl.CommonDivisor(pair[0], pair[1]); got != 0 || code != impl.ErrRange {
				t.Error("CommonDivisor", pair, got, code)
			}
		}
	}
}

// givesDivisor reports whether Bezout's numbers give the greatest common divisor, without overflow.
func givesDivisor(a, b int64) bool {
	x, y, code := impl.Bezout(a, b)
	sum := new(big.Int).Mul(big.NewInt(a), big.NewInt(x))
	sum.Add(sum, new(big.Int).Mul(big.NewInt(b), big.NewInt(y)))
	divisor := new(big.Int).GCD(nil, nil, big.NewInt(a), big.NewInt(b))
	return code == impl.ErrNone && sum.Cmp(divisor) == 0
}

func TestPromise2BezoutGivesCommonDivisor(t *testing.T) {
	for a := int64(-60); a <= 60; a++ {
		for b := int64(-60); b <= 60; b++ {
			if !givesDivisor(a, b) {
				t.Fatal("Bezout", a, b)
			}
		}
	}
	// Neighbouring Fibonacci numbers take the most division steps.
	large := []int64{impl.MaxValue, -impl.MaxValue, impl.MaxValue - 1, 1 - impl.MaxValue, 956722026041, -956722026041, 591286729879, 999999999989, 1 << 39, 0, 1, -1, 720720}
	for _, a := range large {
		for _, b := range large {
			if !givesDivisor(a, b) {
				t.Error("Bezout", a, b)
			}
		}
	}
}

func TestBezoutFollowsDivisionSteps(t *testing.T) {
	for _, c := range [][4]int64{
		{0, 0, 1, 0},
		{5, 0, 1, 0},
		{-5, 0, -1, 0},
		{0, 5, 0, 1},
		{0, -5, 0, -1},
		{7, 7, 0, 1},
		{7, -7, 0, -1},
		{-7, 7, 0, 1},
		{12, 18, -1, 1},
		{18, 12, 1, -1},
		{-12, 18, 1, 1},
		{1, 1, 0, 1},
		{-7, 2, -1, -3}, // a quotient rounded down would give 1, 4
		{7, -2, 1, 3},
		{240, 46, -9, 47},
		{impl.MaxValue, impl.MaxValue, 0, 1},
		{impl.MaxValue, impl.MaxValue - 1, 1, -1},
		{impl.MaxValue, -impl.MaxValue, 0, -1},
	} {
		if x, y, code := impl.Bezout(c[0], c[1]); x != c[2] || y != c[3] || code != impl.ErrNone {
			t.Error("Bezout", c, x, y, code)
		}
	}
	for _, n := range notValues() {
		for _, pair := range [][2]int64{{n, 6}, {6, n}, {n, 0}, {0, n}, {n, n}} {
			if x, y, code := impl.Bezout(pair[0], pair[1]); x != 0 || y != 0 || code != impl.ErrRange {
				t.Error("Bezout", pair, x, y, code)
			}
		}
	}
}

// checkFactors stops the test unless the factors of n are increasing primes whose product is n.
func checkFactors(t *testing.T, n int64, isPrime []bool) {
	list, code := impl.FactorOf(n)
	product, last := int64(1), int64(1)
	for _, power := range list {
		if power.Prime <= last || !isPrime[power.Prime] || power.Exponent < 1 {
			t.Fatal("FactorOf", n, list)
		}
		last = power.Prime
		for range power.Exponent {
			product *= power.Prime
		}
	}
	if product != n || code != impl.ErrNone {
		t.Fatal("FactorOf", n, list, code)
	}
}

func TestPromise2FactorsGiveNumber(t *testing.T) {
	isPrime := primeTable(largestFactored)
	for n := int64(1); n <= 30000; n++ {
		checkFactors(t, n, isPrime)
	}
	for n := int64(990000); n <= largestFactored; n++ {
		checkFactors(t, n, isPrime)
	}
}

func TestFactorOfExamples(t *testing.T) {
	for _, c := range []struct {
		n    int64
		want []impl.Power
	}{
		{1, nil},
		{2, []impl.Power{{Prime: 2, Exponent: 1}}},
		{12, []impl.Power{{Prime: 2, Exponent: 2}, {Prime: 3, Exponent: 1}}},
		{524288, []impl.Power{{Prime: 2, Exponent: 19}}},
		{994009, []impl.Power{{Prime: 997, Exponent: 2}}},
		{999983, []impl.Power{{Prime: 999983, Exponent: 1}}},
		{999966, []impl.Power{{Prime: 2, Exponent: 1}, {Prime: 3, Exponent: 1}, {Prime: 11, Exponent: 1}, {Prime: 109, Exponent: 1}, {Prime: 139, Exponent: 1}}},
		{1000000, []impl.Power{{Prime: 2, Exponent: 6}, {Prime: 5, Exponent: 6}}},
	} {
		if got, code := impl.FactorOf(c.n); !slices.Equal(got, c.want) || code != impl.ErrNone {
			t.Error("FactorOf", c.n, got, code)
		}
	}
	for _, n := range append(notValues(), 0, -1, -12, largestFactored+1, impl.MaxValue, -impl.MaxValue) {
		if got, code := impl.FactorOf(n); len(got) != 0 || code != impl.ErrRange {
			t.Error("FactorOf", n, got, code)
		}
	}
}

func TestValuationOf(t *testing.T) {
	for p, prime := range primeTable(impl.MaxPrime) {
		if !prime {
			continue
		}
		for n := int64(1); n <= 3000; n++ {
			want, rest := int64(0), n
			for ; rest%int64(p) == 0; rest /= int64(p) {
				want++
			}
			for _, m := range []int64{n, -n} {
				if got, code := impl.ValuationOf(m, int64(p)); got != want || code != impl.ErrNone {
					t.Fatal("ValuationOf", m, p, got, code)
				}
			}
		}
	}
	for _, c := range [][3]int64{
		{24, 2, 3}, {1, 2, 0}, {-1, 97, 0}, {9409, 97, 2},
		{impl.MaxValue, 2, 12}, {-impl.MaxValue, 5, 12}, {1 << 39, 2, 39}, {impl.MaxValue, 97, 0},
	} {
		if got, code := impl.ValuationOf(c[0], c[1]); got != c[2] || code != impl.ErrNone {
			t.Error("ValuationOf", c, got, code)
		}
	}
}

func TestValuationOfErrors(t *testing.T) {
	isPrime := primeTable(impl.MaxPrime)
	// No prime of the document comes before each other error.
	for _, p := range append(notValues(), 0, 1, -2, -97, 4, 91, 98, 101, 999983, impl.MaxValue) {
		for _, n := range append(notValues(), 0, 24, impl.MaxValue) {
			if got, code := impl.ValuationOf(n, p); got != 0 || code != impl.ErrInvalid {
				t.Error("ValuationOf", n, p, got, code)
			}
		}
	}
	for p := int64(0); p <= impl.MaxPrime; p++ {
		want := int64(impl.ErrInvalid)
		if isPrime[p] {
			want = impl.ErrState
		}
		if got, code := impl.ValuationOf(0, p); got != 0 || code != want {
			t.Error("ValuationOf", 0, p, got, code)
		}
	}
	for _, n := range notValues() {
		if got, code := impl.ValuationOf(n, 2); got != 0 || code != impl.ErrRange {
			t.Error("ValuationOf", n, 2, got, code)
		}
	}
}

func TestPowersText(t *testing.T) {
	for _, c := range []struct {
		list []impl.Power
		want string
	}{
		{nil, "1"},
		{[]impl.Power{}, "1"},
		{[]impl.Power{{Prime: 2, Exponent: 1}}, "2"},
		{[]impl.Power{{Prime: 2, Exponent: 2}, {Prime: 3, Exponent: 1}}, "2^2*3"},
		{[]impl.Power{{Prime: 2, Exponent: 1}, {Prime: 3, Exponent: 10}, {Prime: 11, Exponent: 11}}, "2*3^10*11^11"},
		{[]impl.Power{{Prime: 999983, Exponent: 40}}, "999983^40"},
		{firstPowers(3, 40), "2^40*3^40*5^40"},
	} {
		if got, code := impl.PowersText(c.list); got != c.want || code != impl.ErrNone {
			t.Error("PowersText", c.list, got, code)
		}
	}
}

func TestPowersTextErrors(t *testing.T) {
	if s, code := impl.PowersText(firstPowers(impl.MaxList, 1)); code != impl.ErrNone || strings.Count(s, "*") != impl.MaxList-1 {
		t.Error("PowersText of MaxList powers", s, code)
	}
	invalid := [][]impl.Power{
		firstPowers(impl.MaxList+1, 1),
		{{Prime: 3, Exponent: 1}, {Prime: 2, Exponent: 1}},
		{{Prime: 2, Exponent: 1}, {Prime: 2, Exponent: 1}},
		{{Prime: 2, Exponent: 1}, {Prime: 5, Exponent: 1}, {Prime: 3, Exponent: 1}},
		{{Prime: 2, Exponent: 1}, {Prime: 4, Exponent: 1}},
		{{Prime: 2, Exponent: 1}, {}},
		{{}},
	}
	for _, p := range append(notValues(), -7, -2, -1, 0, 1, 4, 91, 1000000, 1000003) {
		invalid = append(invalid, []impl.Power{{Prime: p, Exponent: 1}})
	}
	for _, e := range append(notValues(), -1, 0, 41) {
		invalid = append(invalid, []impl.Power{{Prime: 2, Exponent: e}})
		invalid = append(invalid, []impl.Power{{Prime: 2, Exponent: 1}, {Prime: 3, Exponent: e}})
	}
	for _, list := range invalid {
		if s, code := impl.PowersText(list); s != "" || code != impl.ErrInvalid {
			t.Error("PowersText", list, s, code)
		}
	}
}

func TestPromise1PowersRecovered(t *testing.T) {
	lists := [][]impl.Power{nil, firstPowers(impl.MaxList, 1), firstPowers(impl.MaxList, 40), {{Prime: 999983, Exponent: 40}}}
	for n := int64(1); n <= 5000; n++ {
		list, _ := impl.FactorOf(n)
		lists = append(lists, list)
	}
	for e := int64(1); e <= 40; e++ {
		lists = append(lists, firstPowers(int(e), e))
	}
	for _, list := range lists {
		s, code := impl.PowersText(list)
		read, two := impl.ReadPowers(s)
		if code != impl.ErrNone || two != impl.ErrNone || !slices.Equal(read, list) {
			t.Fatal("ReadPowers", list, s, read, code, two)
		}
	}
}

func TestPromise1OnlyTextsAreRead(t *testing.T) {
	long, _ := impl.PowersText(firstPowers(impl.MaxList, 1))
	tooLong := long + "*283" // the prime that follows the first MaxList ones
	for _, s := range []string{
		"", "0", "-1", "4", "91", "+2", "-2", "02", "1.0", "2.", "0x2", "0b10", "2_3", "1e1",
		"2^1", "2^0", "2^-1", "2^+2", "2^02", "2^41", "2^", "^", "^2", "2^2^2", "2^^2", "(2)",
		"*", "**", "2*", "*2", "2**3", "3*2", "2*2", "2*2^2", "1*2", "2*1", "1*1", "1^1", "01", "11*1",
		" ", " 2", "2 ", "2 * 3", "2 ^2", "2\n", "\n", "2\x00", "1 ", "2,3", "2x3", "2·3", "２",
		"1000003", "999983^41", "9223372036854775807", "9223372036854775808", "18446744073709551618",
		"2^18446744073709551618", "2^99999999999999999999", "-", "+", "^1",
		tooLong, long + "*", strings.Repeat("*", 1000), strings.Repeat("2", 100000), strings.Repeat("2*", 100000),
	} {
		if list, code := impl.ReadPowers(s); len(list) != 0 || code != impl.ErrSyntax {
			t.Error("ReadPowers", s, list, code)
		}
	}
}

// shortTexts gives the texts of lists that have at most limit bytes, built from the primes below 1000.
func shortTexts(limit int) map[string]bool {
	texts := map[string]bool{"1": true}
	isPrime := primeTable(999)
	var extend func(text string, next int)
	extend = func(text string, next int) {
		for p := next; p < len(isPrime); p++ {
			for e := 1; isPrime[p] && e <= 40; e++ {
				more := text + strconv.Itoa(p)
				if e > 1 {
					more += "^" + strconv.Itoa(e)
				}
				if len(more) <= limit {
					texts[more] = true
					extend(more+"*", p+1)
				}
			}
		}
	}
	extend("", 2)
	return texts
}

// TestPromise1AllShortTexts holds every string of at most 3 bytes against the texts that there are.
func TestPromise1AllShortTexts(t *testing.T) {
	texts := shortTexts(3)
	check := func(s string) {
		list, code := impl.ReadPowers(s)
		if texts[s] != (code == impl.ErrNone) {
			t.Fatal("ReadPowers", s, list, code)
		}
		if again, _ := impl.PowersText(list); texts[s] && again != s {
			t.Fatal("ReadPowers", s, list, again)
		}
	}
	for a := range 256 {
		check(string([]byte{byte(a)}))
		for b := range 256 {
			check(string([]byte{byte(a), byte(b)}))
		}
	}
	const letters = "0123456789^*+-_ .,x/"
	for a := range letters {
		for b := range letters {
			for c := range letters {
				check(string([]byte{letters[a], letters[b], letters[c]}))
			}
		}
	}
}

func TestDivisorsOf(t *testing.T) {
	for n := int64(1); n <= 5039; n++ {
		want := []int64{}
		for d := int64(1); d <= n; d++ {
			if n%d == 0 {
				want = append(want, d)
			}
		}
		if got, code := impl.DivisorsOf(n); !slices.Equal(got, want) || code != impl.ErrNone {
			t.Fatal("DivisorsOf", n, got, code)
		}
	}
	for n, count := range map[int64]int{5040: 60, 1000000: 49, 999983: 2, 994009: 3, 524288: 20} {
		got, code := impl.DivisorsOf(n)
		if len(got) != count || code != impl.ErrNone || got[0] != 1 || got[count-1] != n || !slices.IsSorted(got) {
			t.Error("DivisorsOf", n, got, code)
		}
	}
}

func TestDivisorsOfErrors(t *testing.T) {
	// 46656 has 49 divisors, 14400 and 186624 have 63: no number of the range has 61 or 62.
	if _, code := impl.DivisorsOf(46656); code != impl.ErrNone {
		t.Error("DivisorsOf 46656", code)
	}
	for _, n := range []int64{14400, 186624, 7560, 44100, 720720, 982800} {
		if got, code := impl.DivisorsOf(n); len(got) != 0 || code != impl.ErrLimit {
			t.Error("DivisorsOf", n, got, code)
		}
	}
	for _, n := range append(notValues(), 0, -1, -6, largestFactored+1, 1441440, impl.MaxValue, -impl.MaxValue) {
		if got, code := impl.DivisorsOf(n); len(got) != 0 || code != impl.ErrRange {
			t.Error("DivisorsOf", n, got, code)
		}
	}
}

func TestIntegersShareNoMemory(t *testing.T) {
	first, _ := impl.FactorOf(12)
	first[0] = impl.Power{}
	if again, _ := impl.FactorOf(12); again[0] != (impl.Power{Prime: 2, Exponent: 2}) {
		t.Error("FactorOf keeps its result", again)
	}
	read, _ := impl.ReadPowers("2^2*3")
	read[0] = impl.Power{}
	if again, _ := impl.ReadPowers("2^2*3"); again[0] != (impl.Power{Prime: 2, Exponent: 2}) {
		t.Error("ReadPowers keeps its result", again)
	}
	divisors, _ := impl.DivisorsOf(6)
	divisors[0] = 9
	if again, _ := impl.DivisorsOf(6); again[0] != 1 {
		t.Error("DivisorsOf keeps its result", again)
	}
}

func TestPowersTextKeepsItsArgument(t *testing.T) {
	list := firstPowers(5, 3)
	before := slices.Clone(list)
	impl.PowersText(list[:2])
	if !slices.Equal(list, before) {
		t.Error("PowersText changes its argument", list)
	}
}
