package tests

import (
	"math"
	"math/big"
	"slices"
	"strconv"
	"strings"
	"testing"

	"loop.example/g01000/impl"
)

// notPlaces are integers outside of -MaxValuation..MaxValuation.
func notPlaces() []int64 {
	return append(notValues(), impl.MaxValuation+1, -impl.MaxValuation-1, impl.MaxModulus, 1<<32, -1<<32)
}

// splitPadics gives numbers whose valuations and ends lie around the place 0, with great precisions,
// among them some of which all digits from the place 0 on are 0.
func splitPadics() []impl.Padic {
	list := []impl.Padic{}
	for r, m := range validRings() {
		for _, v := range []int64{-r.Precision - 1, -r.Precision, 1 - r.Precision, -r.Precision / 2, -1, 0, 1} {
			for _, u := range []int64{1, r.Prime - 1, m/r.Prime + 1, m - 1} {
				if u%r.Prime != 0 && u < m {
					list = append(list, padic(r.Prime, v, u, r.Precision))
				}
			}
		}
	}
	return list
}

// allPadics gives the numbers of validPadics and of splitPadics in one list.
func allPadics() []impl.Padic {
	return slices.Concat(append(validPadics(), splitPadics())...)
}

// exactDigits gives the digits of the places from x.Valuation to the end - 1 by exact division.
func exactDigits(x impl.Padic) []int64 {
	list := []int64{}
	for place := x.Valuation; place < x.Valuation+x.Precision; place++ {
		quotient := new(big.Int).Quo(scaled(x, 0), bigPower(x.Prime, place))
		list = append(list, quotient.Mod(quotient, big.NewInt(x.Prime)).Int64())
	}
	return list
}

// exactNumber gives the sum of digits from a place on, times p to the power of scale.
func exactNumber(p, place int64, digits []int64) *big.Int {
	sum := new(big.Int)
	for i, digit := range digits {
		sum.Add(sum, new(big.Int).Mul(big.NewInt(digit), bigPower(p, place+int64(i))))
	}
	return sum
}

// digitLists gives all lists of digits by p that have a length.
func digitLists(p int64, length int) [][]int64 {
	lists := [][]int64{{}}
	for range length {
		longer := [][]int64{}
		for _, list := range lists {
			for digit := range p {
				longer = append(longer, append(slices.Clone(list), digit))
			}
		}
		lists = longer
	}
	return lists
}

// repeated gives a list of count equal numbers.
func repeated(n int64, count int) []int64 {
	return slices.Repeat([]int64{n}, count)
}

func TestDigitsOf(t *testing.T) {
	for _, x := range allPadics() {
		got, code := impl.DigitsOf(x)
		if want := exactDigits(x); !slices.Equal(got, want) || code != impl.ErrNone {
			t.Fatal("DigitsOf", x, got, code, want)
		}
		for i, digit := range got {
			if at, code := impl.DigitAt(x, x.Valuation+int64(i)); at != digit || code != impl.ErrNone {
				t.Fatal("DigitsOf and DigitAt", x, i, got, at, code)
			}
		}
	}
	for _, c := range []struct {
		x    impl.Padic
		want []int64
	}{
		{padic(3, 0, 5, 3), []int64{2, 1, 0}}, {padic(3, -60, 5, 3), []int64{2, 1, 0}}, {padic(3, 60, 5, 2), []int64{2, 1}}, {padic(7, -1, 10, 2), []int64{3, 1}},
		{padic(3, 0, 0, 0), nil}, {padic(97, 60, 0, 0), nil}, {padic(2, 0, 1, 1), []int64{1}}, {padic(2, 0, 1<<29-1, 29), repeated(1, 29)},
		{padic(97, 0, 88529280, 4), repeated(96, 4)}, {padic(31, 0, 1, 6), []int64{1, 0, 0, 0, 0, 0}},
	} {
		if got, code := impl.DigitsOf(c.x); !slices.Equal(got, c.want) || code != impl.ErrNone {
			t.Error("DigitsOf", c.x, got, code)
		}
	}
}

// TestPromise5NumberIsRecovered takes the digits of numbers, also with digits 0 put before them: the
// number stays the same as long as their power of p is not too great.
func TestPromise5NumberIsRecovered(t *testing.T) {
	for _, x := range allPadics() {
		digits, _ := impl.DigitsOf(x)
		if got, code := impl.FromDigits(x.Prime, x.Valuation, digits); got != x || code != impl.ErrNone {
			t.Fatal("FromDigits", x, digits, got, code)
		}
		most := len(powersOf(x.Prime))
		for zeros := 1; x.Valuation-int64(zeros) >= -impl.MaxValuation && zeros <= most+1; zeros++ {
			want, wantCode := x, int64(impl.ErrNone)
			if zeros+len(digits) > most {
				want, wantCode = impl.Padic{}, impl.ErrLimit
			}
			got, code := impl.FromDigits(x.Prime, x.Valuation-int64(zeros), append(repeated(0, zeros), digits...))
			if got != want || code != wantCode {
				t.Fatal("FromDigits after digits 0", x, zeros, got, code)
			}
		}
	}
}

// TestFromDigitsIsExact takes all short lists of digits, at places up to both ends of the range.
func TestFromDigitsIsExact(t *testing.T) {
	for p, longest := range map[int64]int{2: 7, 3: 4, 5: 3, 13: 2, 97: 1} {
		for length := range longest + 1 {
			for _, digits := range digitLists(p, length) {
				for _, place := range []int64{-impl.MaxValuation, -30, -2, -1, 0, 1, 30, impl.MaxValuation - 3, impl.MaxValuation - 1, impl.MaxValuation} {
					want, wantCode := known(p, place+int64(length), exactNumber(p, place, digits))
					got, code := impl.FromDigits(p, place, digits)
					if got != want || code != wantCode {
						t.Fatal("FromDigits", p, place, digits, got, code, want, wantCode)
					}
					if code == impl.ErrNone && !impl.IsPadic(got) {
						t.Fatal("FromDigits is not valid", p, place, digits, got)
					}
				}
			}
		}
	}
}

func TestFromDigits(t *testing.T) {
	for _, c := range []struct {
		p, place int64
		digits   []int64
		want     impl.Padic
		code     int64
	}{
		{3, -1, []int64{2, 1}, padic(3, -1, 5, 2), impl.ErrNone},
		{3, -1, []int64{0, 2, 1}, padic(3, 0, 5, 2), impl.ErrNone},
		{3, -1, []int64{2, 1, 0, 0}, padic(3, -1, 5, 4), impl.ErrNone},
		{3, -1, []int64{0, 0, 1, 0}, padic(3, 1, 1, 2), impl.ErrNone},
		{3, 5, nil, padic(3, 5, 0, 0), impl.ErrNone},
		{3, 5, []int64{}, padic(3, 5, 0, 0), impl.ErrNone},
		{3, -60, nil, padic(3, -60, 0, 0), impl.ErrNone},
		{3, 60, nil, padic(3, 60, 0, 0), impl.ErrNone},
		{3, 5, []int64{0}, padic(3, 6, 0, 0), impl.ErrNone},
		{3, -2, []int64{0, 0}, padic(3, 0, 0, 0), impl.ErrNone},
		{3, -60, repeated(0, 18), padic(3, -42, 0, 0), impl.ErrNone},
		{3, 42, repeated(0, 18), padic(3, 60, 0, 0), impl.ErrNone},
		{3, 43, repeated(0, 18), impl.Padic{}, impl.ErrLimit},
		{3, 59, []int64{0}, padic(3, 60, 0, 0), impl.ErrNone},
		{3, 60, []int64{0}, impl.Padic{}, impl.ErrLimit},
		{3, 59, []int64{0, 1}, padic(3, 60, 1, 1), impl.ErrNone},
		{3, 59, []int64{0, 0, 1}, impl.Padic{}, impl.ErrLimit},
		{3, 60, []int64{0, 1}, impl.Padic{}, impl.ErrLimit},
		{3, 60, []int64{1, 0}, padic(3, 60, 1, 2), impl.ErrNone},
		{2, 60, repeated(1, 29), padic(2, 60, 1<<29-1, 29), impl.ErrNone},
		{2, -60, repeated(1, 29), padic(2, -60, 1<<29-1, 29), impl.ErrNone},
		{97, 60, repeated(96, 4), padic(97, 60, 88529280, 4), impl.ErrNone},
	} {
		if got, code := impl.FromDigits(c.p, c.place, c.digits); got != c.want || code != c.code {
			t.Error("FromDigits", c, got, code)
		}
	}
}

func TestFromDigitsTooMany(t *testing.T) {
	for n, prime := range primeTable(impl.MaxPrime) {
		if !prime {
			continue
		}
		p := int64(n)
		most := len(powersOf(p))
		for _, digit := range []int64{0, 1, p - 1} {
			for _, place := range []int64{-impl.MaxValuation, 0} {
				if _, code := impl.FromDigits(p, place, repeated(digit, most)); code != impl.ErrNone {
					t.Fatal("FromDigits with the greatest modulus", p, place, digit, code)
				}
				for _, count := range []int{most + 1, most + 2, 61, 64, 65, 128, 1000, 1 << 16} {
					if got, code := impl.FromDigits(p, place, repeated(digit, count)); got != (impl.Padic{}) || code != impl.ErrLimit {
						t.Fatal("FromDigits", p, place, digit, count, got, code)
					}
				}
			}
		}
	}
}

// TestFromDigitsErrors gives several errors at once: the prime comes first, then the ranges of the
// place and of every digit, and the limit last.
func TestFromDigitsErrors(t *testing.T) {
	for _, p := range append(notValues(), 0, 1, -2, -3, 4, 91, 98, 101, 999983) {
		for _, place := range append(notPlaces(), 0, impl.MaxValuation) {
			for _, digits := range [][]int64{nil, {0}, {1}, {-1}, {math.MaxInt64}, repeated(0, 100), repeated(-1, 100)} {
				if got, code := impl.FromDigits(p, place, digits); got != (impl.Padic{}) || code != impl.ErrInvalid {
					t.Fatal("FromDigits", p, place, digits, got, code)
				}
			}
		}
	}
	for _, place := range notPlaces() {
		for _, digits := range [][]int64{nil, {0}, {0, 1}, {2}, {-1}, repeated(0, 100), repeated(1, 1000)} {
			if got, code := impl.FromDigits(3, place, digits); got != (impl.Padic{}) || code != impl.ErrRange {
				t.Fatal("FromDigits", place, digits, got, code)
			}
		}
	}
	for _, p := range []int64{2, 3, 97} {
		for _, digit := range append(notValues(), -1, -p, p, p+1, 2*p, 1<<32, 1<<32+1) {
			for _, place := range []int64{-impl.MaxValuation, 0, impl.MaxValuation} {
				for _, digits := range [][]int64{
					{digit}, {digit, 0}, {0, digit}, {1, 0, digit, 1}, append(repeated(1, 100), digit), append([]int64{digit}, repeated(0, 1000)...),
				} {
					if got, code := impl.FromDigits(p, place, digits); got != (impl.Padic{}) || code != impl.ErrRange {
						t.Fatal("FromDigits", p, place, digits, got, code)
					}
				}
			}
		}
	}
}

// textOf builds the text of a number from its exact digits.
func textOf(x impl.Padic) string {
	list := "-"
	for i, digit := range exactDigits(x) {
		if i == 0 {
			list = strconv.FormatInt(digit, 10)
		} else {
			list += "," + strconv.FormatInt(digit, 10)
		}
	}
	return strconv.FormatInt(x.Prime, 10) + ":" + strconv.FormatInt(x.Valuation, 10) + ":" + list
}

func TestPadicText(t *testing.T) {
	for _, c := range []struct {
		x    impl.Padic
		want string
	}{
		{padic(7, -1, 10, 2), "7:-1:3,1"}, {padic(3, 0, 5, 3), "3:0:2,1,0"}, {padic(3, 0, 1, 1), "3:0:1"}, {padic(3, 0, 1, 2), "3:0:1,0"},
		{padic(3, 0, 0, 0), "3:0:-"}, {padic(3, -60, 0, 0), "3:-60:-"}, {padic(97, 60, 0, 0), "97:60:-"}, {padic(97, 60, 88529280, 4), "97:60:96,96,96,96"},
		{padic(13, -7, 155, 2), "13:-7:12,11"}, {padic(2, 10, 1<<29-1, 29), "2:10:1" + strings.Repeat(",1", 28)},
	} {
		if got, code := impl.PadicText(c.x); got != c.want || code != impl.ErrNone {
			t.Error("PadicText", c.x, got, code)
		}
	}
}

func TestPromise1PadicsRecovered(t *testing.T) {
	for _, x := range allPadics() {
		s, code := impl.PadicText(x)
		if s != textOf(x) || code != impl.ErrNone {
			t.Fatal("PadicText", x, s, code)
		}
		if got, code := impl.ReadPadic(s); got != x || code != impl.ErrNone {
			t.Fatal("ReadPadic", x, s, got, code)
		}
	}
}

func TestPromise1OnlyPadicTextsAreRead(t *testing.T) {
	for _, s := range []string{
		// Separators are missing, superfluous or others, and parts are empty.
		"", "-", ":", "::", ":::", ",", "3", "3:", "3:0", "3:0:", "3::", ":0:1", "3::1", "::-", "3:-", "3:1", "3:0:1:", ":3:0:1", "3:0:1:1", "3:0::1", "3::0:1",
		"3:0:,", "3:0:1,", "3:0:,1", "3:0:1,,1", "3:0:1,1,", "3:0:-,", "3:0:-,1", "3:0:1,-", "3:0:-,-", "3:0:--", "3,0,1", "3;0;1", "3:0,1", "3,0:1", "3:0:1;1", "3:0:1.1", "3:0:11",
		"(3:0:1)", "{3:0:1}", "3:0:[1]", "3:0:1 1", "3.0:0:1",
		// Signs and superfluous zeros.
		"+3:0:1", "-3:0:1", "3:+0:1", "3:-0:1", "3:+1:1", "3:--1:1", "3:-:1", "3:-:-", "3:0:+1", "3:0:-1", "3:0:-0", "3:0:1,-1", "3:0:1,-0", "3:0:1,+0", "3:0:+", "3:0:+-",
		"03:0:1", "3:00:1", "3:01:1", "3:-01:1", "3:0:01", "3:0:1,00", "3:0:1,01", "3:0:00,1",
		// The first digit of a number is not 0, and a zero has none.
		"3:0:0", "3:0:0,1", "3:0:0,0", "3:-1:0,1", "3:0:0,-", "2:0:0",
		// No prime, no valuation, no digit.
		"0:0:1", "1:0:-", "1:0:0", "4:0:1", "91:0:1", "98:0:1", "101:0:1", "999983:0:-", "3:61:1", "3:-61:1", "3:61:-", "3:-61:-", "3:60:0", "3:60:0,1", "3:59:0,1", "3:0:3", "3:0:1,3", "3:0:3,1", "2:0:2", "97:0:97", "3:0:10",
		"2:0:1" + strings.Repeat(",0", 29), "97:0:1,0,0,0,0", "97:-60:1,0,0,0,0", "2:0:" + strings.Repeat("0,", 29) + "1", "3:0:1" + strings.Repeat(",0", 100000),
		// Numbers beyond 64 bits, some of which are small by their remainder.
		"18446744073709551619:0:1", "3:18446744073709551616:1", "3:0:18446744073709551617", "3:0:1,18446744073709551616", "99999999999999999999:0:1", "3:-99999999999999999999:1", "3:9223372036854775807:-", "3:-9223372036854775808:-",
		// Blanks, other notations and other characters.
		" 3:0:1", "3:0:1 ", "3: 0:1", "3:0: 1", "3:0 :1", "3:0:1, 1", "3:0:1 ,1", "3:0:1\n", "\n3:0:1", "3:0:1\x00", "3:0:1\t", "3:0:- ", "3:0: -", "0x3:0:1", "3:0x0:1", "3:0:0x1", "3:0:1_0", "1_3:0:1", "3:0:1e0", "3:0:1.0",
		"３:0:1", "3：0:1", "3:0:１", "3:0:1，1", "3:0:−", "3:−1:1", "3:0:–", "3:0:a", "a:0:1", "3:a:1", "p:v:u", "\xff", "3:0:\xff",
		strings.Repeat(":", 100000), strings.Repeat(",", 100000), "3:0:" + strings.Repeat(",", 100000), "3:0:" + strings.Repeat("1", 100000), strings.Repeat("3", 100000) + ":0:1", "3:0:" + strings.Repeat("-", 100000),
	} {
		if got, code := impl.ReadPadic(s); got != (impl.Padic{}) || code != impl.ErrSyntax {
			t.Errorf("ReadPadic %.80q: %v %d", s, got, code)
		}
	}
}

// TestPromise1AllShortPadicTexts holds every string of at most 7 letters against the texts that there
// are, of the numbers by all primes that are written with these letters.
func TestPromise1AllShortPadicTexts(t *testing.T) {
	const letters = "0123:,-"
	texts := map[string]impl.Padic{}
	for p, precision := range map[int64]int64{2: 2, 3: 2, 11: 1, 13: 1, 23: 1, 31: 1} {
		for _, x := range smallPadics(p, 33, precision) {
			texts[textOf(x)] = x
		}
	}
	found := 0
	var check func(s string, more int)
	check = func(s string, more int) {
		got, code := impl.ReadPadic(s)
		want, isText := texts[s]
		if got != want || isText != (code == impl.ErrNone) || !isText && code != impl.ErrSyntax {
			t.Fatal("ReadPadic", s, got, code, want)
		}
		if isText {
			found++
		}
		for i := 0; i < len(letters) && more > 0; i++ {
			check(s+letters[i:i+1], more-1)
		}
	}
	check("", 7)
	if found < 200 {
		t.Error("texts of at most 7 letters", found)
	}
}

// TestPromise1ChangedTexts puts one other byte at each place of a text, leaves each byte out, and
// inserts one: what is still read has the changed text.
func TestPromise1ChangedTexts(t *testing.T) {
	check := func(s string) {
		got, code := impl.ReadPadic(s)
		if code == impl.ErrNone && (!impl.IsPadic(got) || textOf(got) != s) {
			t.Fatal("ReadPadic", s, got)
		}
		if code != impl.ErrNone && (code != impl.ErrSyntax || got != (impl.Padic{})) {
			t.Fatal("ReadPadic", s, got, code)
		}
	}
	for _, x := range []impl.Padic{padic(7, -1, 10, 2), padic(13, -60, 155, 3), padic(97, 60, 88529280, 4), padic(3, 9, 0, 0), padic(2, 31, 5, 4), padic(11, 0, 109, 2)} {
		s := textOf(x)
		for i := range len(s) {
			check(s[:i] + s[i+1:])
			for b := range 256 {
				check(s[:i] + string([]byte{byte(b)}) + s[i+1:])
				check(s[:i] + string([]byte{byte(b)}) + s[i:])
				check(s + string([]byte{byte(b)}))
			}
		}
	}
}

func TestShiftPadic(t *testing.T) {
	for _, x := range slices.Concat(smallPadics(2, 3, 2), smallPadics(3, 1, 2), widePadics(2), widePadics(97)) {
		for places := int64(-impl.MaxValuation); places <= impl.MaxValuation; places++ {
			want, wantCode := limited(padic(x.Prime, x.Valuation+places, x.Unit, x.Precision))
			if got, code := impl.ShiftPadic(x, places); got != want || code != wantCode {
				t.Fatal("ShiftPadic", x, places, got, code)
			}
		}
		for _, places := range notPlaces() {
			if got, code := impl.ShiftPadic(x, places); got != (impl.Padic{}) || code != impl.ErrRange {
				t.Fatal("ShiftPadic", x, places, got, code)
			}
		}
	}
	for _, c := range []struct {
		x      impl.Padic
		places int64
		want   impl.Padic
		code   int64
	}{
		{padic(7, -1, 10, 2), 1, padic(7, 0, 10, 2), impl.ErrNone}, {padic(7, -1, 10, 2), 0, padic(7, -1, 10, 2), impl.ErrNone},
		{padic(7, 0, 10, 2), 60, padic(7, 60, 10, 2), impl.ErrNone}, {padic(7, 1, 10, 2), 60, impl.Padic{}, impl.ErrLimit},
		{padic(7, 0, 10, 2), -60, padic(7, -60, 10, 2), impl.ErrNone}, {padic(7, -1, 10, 2), -60, impl.Padic{}, impl.ErrLimit},
		{padic(7, 60, 10, 2), 1, impl.Padic{}, impl.ErrLimit}, {padic(7, -60, 10, 2), -1, impl.Padic{}, impl.ErrLimit},
		{padic(7, -60, 0, 0), -1, impl.Padic{}, impl.ErrLimit}, {padic(7, 60, 0, 0), 1, impl.Padic{}, impl.ErrLimit},
		{padic(7, 60, 0, 0), -60, padic(7, 0, 0, 0), impl.ErrNone}, {padic(7, 60, 0, 0), -61, impl.Padic{}, impl.ErrRange},
	} {
		if got, code := impl.ShiftPadic(c.x, c.places); got != c.want || code != c.code {
			t.Error("ShiftPadic", c, got, code)
		}
	}
}

// digitsBelow0 gives the exact digits of x at places below 0, and the others.
func digitsBelow0(x impl.Padic) ([]int64, []int64) {
	digits := exactDigits(x)
	count := min(max(-x.Valuation, 0), int64(len(digits)))
	return digits[:count], digits[count:]
}

// TestPromise5SumOfWholePartAndFraction compares both parts with the sums of their exact digits, and
// their sum with the number.
func TestPromise5SumOfWholePartAndFraction(t *testing.T) {
	for _, x := range allPadics() {
		end := x.Valuation + x.Precision
		whole, code := impl.WholePart(x)
		n, d, two := impl.FractionOf(x)
		if end < 0 {
			if whole != (impl.Padic{}) || n != 0 || d != 0 || code != impl.ErrNotFound || two != impl.ErrNotFound {
				t.Fatal("an end below 0", x, whole, code, n, d, two)
			}
			continue
		}
		below, others := digitsBelow0(x)
		want, _ := known(x.Prime, end, exactNumber(x.Prime, max(x.Valuation, 0), others))
		if whole != want || code != impl.ErrNone || !impl.IsPadic(whole) {
			t.Fatal("WholePart", x, whole, code, want)
		}
		// The fraction is n / d if d times the exact sum of the digits is n.
		product := new(big.Int).Mul(big.NewInt(d), exactNumber(x.Prime, x.Valuation, below))
		if product.Cmp(new(big.Int).Mul(big.NewInt(n), bigPower(x.Prime, 0))) != 0 || two != impl.ErrNone {
			t.Fatal("FractionOf", x, n, d, two)
		}
		if divisor, code := impl.CommonDivisor(n, d); divisor != 1 || code != impl.ErrNone || n < 0 || n >= d {
			t.Fatal("FractionOf is not in lowest terms", x, n, d)
		}
		sum := whole
		if n != 0 {
			sum, code = impl.AddPadics(whole, padic(x.Prime, x.Valuation, n, x.Precision))
		}
		if sum != x || code != impl.ErrNone {
			t.Fatal("the sum of both parts", x, whole, n, d, sum, code)
		}
	}
}

func TestWholePartAndFractionOf(t *testing.T) {
	for _, c := range []struct {
		x, whole impl.Padic
		n, d     int64
		code     int64
	}{
		{padic(7, -1, 10, 2), padic(7, 0, 1, 1), 3, 7, impl.ErrNone},
		{padic(3, -2, 14, 3), padic(3, 0, 1, 1), 5, 9, impl.ErrNone},
		{padic(3, -2, 5, 3), padic(3, 1, 0, 0), 5, 9, impl.ErrNone},
		{padic(3, -2, 5, 2), padic(3, 0, 0, 0), 5, 9, impl.ErrNone},
		{padic(3, -2, 1, 2), padic(3, 0, 0, 0), 1, 9, impl.ErrNone},
		{padic(3, -2, 2, 1), impl.Padic{}, 0, 0, impl.ErrNotFound},
		{padic(3, -3, 5, 2), impl.Padic{}, 0, 0, impl.ErrNotFound},
		{padic(3, -1, 1, 1), padic(3, 0, 0, 0), 1, 3, impl.ErrNone},
		{padic(3, -1, 10, 4), padic(3, 1, 1, 2), 1, 3, impl.ErrNone},
		{padic(3, 0, 5, 3), padic(3, 0, 5, 3), 0, 1, impl.ErrNone},
		{padic(3, 60, 5, 3), padic(3, 60, 5, 3), 0, 1, impl.ErrNone},
		{padic(3, 0, 0, 0), padic(3, 0, 0, 0), 0, 1, impl.ErrNone},
		{padic(3, 60, 0, 0), padic(3, 60, 0, 0), 0, 1, impl.ErrNone},
		{padic(3, -1, 0, 0), impl.Padic{}, 0, 0, impl.ErrNotFound},
		{padic(3, -60, 0, 0), impl.Padic{}, 0, 0, impl.ErrNotFound},
		{padic(3, -60, 1, 18), impl.Padic{}, 0, 0, impl.ErrNotFound},
		{padic(2, -29, 1<<29-1, 29), padic(2, 0, 0, 0), 1<<29 - 1, 1 << 29, impl.ErrNone},
		{padic(2, -30, 1<<29-1, 29), impl.Padic{}, 0, 0, impl.ErrNotFound},
		{padic(2, -28, 1<<29-1, 29), padic(2, 0, 1, 1), 1<<28 - 1, 1 << 28, impl.ErrNone},
		{padic(2, -1, 1<<28+1, 29), padic(2, 27, 1, 1), 1, 2, impl.ErrNone},
		{padic(31, -6, 887503680, 6), padic(31, 0, 0, 0), 887503680, 887503681, impl.ErrNone},
	} {
		whole, code := impl.WholePart(c.x)
		n, d, two := impl.FractionOf(c.x)
		if whole != c.whole || n != c.n || d != c.d || code != c.code || two != c.code {
			t.Error("WholePart and FractionOf", c, whole, code, n, d, two)
		}
	}
}

func TestSumOfDigits(t *testing.T) {
	for _, x := range allPadics() {
		want := int64(0)
		for _, digit := range exactDigits(x) {
			want += digit
		}
		if got, code := impl.SumOfDigits(x); got != want || code != impl.ErrNone {
			t.Fatal("SumOfDigits", x, got, code)
		}
	}
	for x, want := range map[impl.Padic]int64{
		padic(7, -1, 10, 2): 4, padic(3, -60, 26, 3): 6, padic(3, 60, 1, 18): 1, padic(3, 5, 0, 0): 0, padic(2, 0, 1<<29-1, 29): 29, padic(97, 0, 88529280, 4): 384,
	} {
		if got, code := impl.SumOfDigits(x); got != want || code != impl.ErrNone {
			t.Error("SumOfDigits", x, got, code)
		}
	}
}

// TestDigitsOfInvalidPadics also gives shifts that are out of range, and numbers whose end would be
// less than 0: that they are invalid comes first.
func TestDigitsOfInvalidPadics(t *testing.T) {
	invalid := append(invalidPadics(), padic(3, -5, 3, 2), padic(3, -5, 9, 2), padic(4, -5, 0, 0), padic(3, -61, 0, 0), padic(3, -5, 1, -1), padic(3, math.MinInt64, 1, 1))
	for _, x := range invalid {
		if got, code := impl.DigitsOf(x); len(got) != 0 || code != impl.ErrInvalid {
			t.Fatal("DigitsOf", x, got, code)
		}
		if got, code := impl.PadicText(x); got != "" || code != impl.ErrInvalid {
			t.Fatal("PadicText", x, got, code)
		}
		if got, code := impl.WholePart(x); got != (impl.Padic{}) || code != impl.ErrInvalid {
			t.Fatal("WholePart", x, got, code)
		}
		if n, d, code := impl.FractionOf(x); n != 0 || d != 0 || code != impl.ErrInvalid {
			t.Fatal("FractionOf", x, n, d, code)
		}
		if got, code := impl.SumOfDigits(x); got != 0 || code != impl.ErrInvalid {
			t.Fatal("SumOfDigits", x, got, code)
		}
		for _, places := range append(notPlaces(), -impl.MaxValuation, -1, 0, 1, impl.MaxValuation) {
			if got, code := impl.ShiftPadic(x, places); got != (impl.Padic{}) || code != impl.ErrInvalid {
				t.Fatal("ShiftPadic", x, places, got, code)
			}
		}
	}
}

func TestDigitsShareNoMemory(t *testing.T) {
	x := padic(3, 0, 5, 3)
	first, _ := impl.DigitsOf(x)
	first[0] = 9
	if again, _ := impl.DigitsOf(x); !slices.Equal(again, []int64{2, 1, 0}) {
		t.Error("DigitsOf keeps its result", again)
	}
	for _, digits := range [][]int64{{0, 2, 1, 7, 7}, {0, 0, 0, 7, 7}, {1, 0, 0, 7, 7}} {
		before := slices.Clone(digits)
		impl.FromDigits(3, 0, digits[:3])
		impl.FromDigits(3, 0, digits[:4])
		if !slices.Equal(digits, before) {
			t.Error("FromDigits changes its argument", digits, before)
		}
	}
}
