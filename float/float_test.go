package float

import (
	"math"
	"math/big"
	"math/rand"
	"regexp"
	"slices"
	"strconv"
	"strings"
	"testing"

	"bascule/api"
)

const (
	theNaN      = 0x7FF8000000000000
	signBit     = 1 << 63
	least       = 1                  // the bits of the least float above 0
	mostSmall   = 0x000FFFFFFFFFFFFF // of the greatest one that is subnormal
	leastNormal = 0x0010000000000000
	greatest    = 0x7FEFFFFFFFFFFFFF
	infinity    = 0x7FF0000000000000
)

func of(b uint64) float64 { return math.Float64frombits(b) }

var (
	minusZero = math.Copysign(0, -1)
	inf       = math.Inf(1)
)

// notNumbers answers NaN of all shapes: quiet and signalling, with and without a sign, with little and much beside.
func notNumbers() []float64 {
	return []float64{
		of(theNaN), math.NaN(), of(theNaN | signBit), of(infinity + 1), of(infinity + 1 | signBit),
		of(0x7FF4000000000000), of(0x7FFFFFFFFFFFFFFF), of(math.MaxUint64), of(0xFFF0000000000123),
	}
}

// numbersRising answers edges in the row of P3.2, all but NaN, each once.
func numbersRising() []float64 {
	above := []float64{
		of(least), of(2), of(3), of(mostSmall - 1), of(mostSmall), of(leastNormal), of(leastNormal + 1),
		1e-300, 0.1, 0.5, of(0x3FEFFFFFFFFFFFFF), 1, of(0x3FF0000000000001), 1.5, 2, 2.5, 3, 12, 1e15,
		1<<52 - 1, 1<<52 - 0.5, 1 << 52, 1<<53 - 1, 1 << 53, 1<<53 + 2, 1<<63 - 1024, 1 << 63, 1<<63 + 2048, 1 << 64, 1e300,
		of(greatest - 1), of(greatest), inf,
	}
	slices.Sort(above)
	var row []float64
	for i := range above {
		row = append(row, -above[len(above)-1-i])
	}
	row = append(row, minusZero, 0)
	return append(row, above...)
}

func edges() []float64 { return append(numbersRising(), notNumbers()...) }

// anyFloat answers floats of all sizes; about one in a thousand is none.
func anyFloat(r *rand.Rand) float64 { return of(r.Uint64()) }

// nearFloat answers finite floats that are of a size, so that sums have something to round.
func nearFloat(r *rand.Rand) float64 {
	f := of(uint64(1023-30+r.Intn(60))<<52 | r.Uint64()>>12)
	if r.Intn(2) == 0 {
		return -f
	}
	return f
}

func finite(f float64) bool { return !math.IsNaN(f) && !math.IsInf(f, 0) }

func exact(f float64) *big.Rat { return new(big.Rat).SetFloat64(f) }

func sameBits(t *testing.T, what string, got, want float64) {
	t.Helper()
	if math.Float64bits(got) != math.Float64bits(want) {
		t.Errorf("%s: %x (%v), not %x (%v)", what, math.Float64bits(got), got, math.Float64bits(want), want)
	}
}

func show(f float64) string { return strconv.FormatUint(math.Float64bits(f), 16) }

// P3.1: NaN of any bits becomes the canonical one, all else stays bit by bit.
func TestCanon(t *testing.T) {
	for _, f := range notNumbers() {
		sameBits(t, "Canon of "+show(f), Canon(f), of(theNaN))
	}
	for _, f := range numbersRising() {
		sameBits(t, "Canon of "+show(f), Canon(f), f)
	}
	r := rand.New(rand.NewSource(1))
	for range 20000 {
		f := anyFloat(r)
		want := f
		if math.IsNaN(f) {
			want = of(theNaN)
		}
		sameBits(t, "Canon of "+show(f), Canon(f), want)
	}
}

// rounded answers an exact number as the nearest float, halves to the even; minus tells the sign of a zero.
func rounded(x *big.Rat, minus bool) float64 {
	f, _ := x.Float64()
	if f == 0 && minus {
		return minusZero
	}
	return f
}

func refAdd(a, b float64) float64 {
	switch {
	case math.IsNaN(a) || math.IsNaN(b) || math.IsInf(a, 1) && math.IsInf(b, -1) || math.IsInf(a, -1) && math.IsInf(b, 1):
		return of(theNaN)
	case math.IsInf(a, 0):
		return a
	case math.IsInf(b, 0):
		return b
	}
	return rounded(new(big.Rat).Add(exact(a), exact(b)), math.Signbit(a) && math.Signbit(b))
}

func refSub(a, b float64) float64 { return refAdd(a, math.Copysign(b, minusOf(b))) }

// minusOf answers a number with the sign that b has not.
func minusOf(b float64) float64 {
	if math.Signbit(b) {
		return 1
	}
	return -1
}

func refMul(a, b float64) float64 {
	minus := math.Signbit(a) != math.Signbit(b)
	switch {
	case math.IsNaN(a) || math.IsNaN(b) || math.IsInf(a, 0) && b == 0 || a == 0 && math.IsInf(b, 0):
		return of(theNaN)
	case math.IsInf(a, 0) || math.IsInf(b, 0):
		return signed(infinity, minus)
	}
	return rounded(new(big.Rat).Mul(exact(a), exact(b)), minus)
}

func refDiv(a, b float64) float64 {
	minus := math.Signbit(a) != math.Signbit(b)
	switch {
	case math.IsNaN(a) || math.IsNaN(b) || math.IsInf(a, 0) && math.IsInf(b, 0) || a == 0 && b == 0:
		return of(theNaN)
	case math.IsInf(a, 0) || b == 0:
		return signed(infinity, minus)
	case math.IsInf(b, 0):
		return signed(0, minus)
	}
	return rounded(new(big.Rat).Quo(exact(a), exact(b)), minus)
}

func signed(b uint64, minus bool) float64 {
	if minus {
		b |= signBit
	}
	return of(b)
}

func checkArithmetic(t *testing.T, a, b float64) {
	t.Helper()
	of := " of " + show(a) + ", " + show(b)
	sameBits(t, "Add"+of, Add(a, b), refAdd(a, b))
	sameBits(t, "Sub"+of, Sub(a, b), refSub(a, b))
	sameBits(t, "Mul"+of, Mul(a, b), refMul(a, b))
	sameBits(t, "Div"+of, Div(a, b), refDiv(a, b))
}

// P3.1 against exact numbers: every pair of edges, and floats of all sizes.
func TestArithmetic(t *testing.T) {
	for _, a := range edges() {
		for _, b := range edges() {
			checkArithmetic(t, a, b)
		}
	}
	r := rand.New(rand.NewSource(2))
	for range 3000 {
		checkArithmetic(t, anyFloat(r), anyFloat(r))
		checkArithmetic(t, nearFloat(r), nearFloat(r))
		checkArithmetic(t, of(r.Uint64()&mostSmall), nearFloat(r))
	}
}

// P3.1 in plain numbers: what binary64 says at its edges.
func TestArithmeticEdges(t *testing.T) {
	const two53 = 1 << 53
	max, small := of(greatest), of(least)
	for _, c := range []struct {
		name      string
		got, want float64
	}{
		{"a half to the even, down", Add(two53, 1), two53},
		{"a half to the even, up", Add(two53+2, 1), two53 + 4},
		{"below a half", Add(two53, 0.5), two53},
		{"above a half", Add(two53, 1.5), two53 + 2},
		{"a tenth and two tenths", Add(0.1, 0.2), 0.30000000000000004},
		{"one third", Div(1, 3), of(0x3FD5555555555555)},
		{"two thirds", Div(2, 3), of(0x3FE5555555555555)},
		{"beyond the greatest", Add(max, max), inf},
		{"below the half of what is missing", Add(max, math.Ldexp(1, 969)), max},
		{"the half of what is missing", Add(max, math.Ldexp(1, 970)), inf},
		{"too great a product", Mul(1e200, -1e200), -inf},
		{"half of the least, to the even", Mul(small, 0.5), 0},
		{"half of the least, with a minus", Mul(small, -0.5), minusZero},
		{"three halves of the least", Mul(of(3), 0.5), of(2)},
		{"three quarters of the least", Mul(small, 0.75), small},
		{"the least ones apart", Sub(of(leastNormal), of(mostSmall)), small},
		{"by the least", Div(1, small), inf},
		{"the least by the greatest", Div(small, max), 0},
		{"infinities apart", Sub(inf, inf), of(theNaN)},
		{"infinities together", Add(inf, -inf), of(theNaN)},
		{"infinity and infinity", Add(-inf, -inf), -inf},
		{"infinity, less", Sub(inf, max), inf},
		{"none of infinity", Mul(minusZero, inf), of(theNaN)},
		{"infinity by infinity", Div(-inf, inf), of(theNaN)},
		{"one by infinity", Div(-1, inf), minusZero},
		{"one by zero", Div(1, 0), inf},
		{"one by the other zero", Div(1, minusZero), -inf},
		{"zero by zero", Div(0, 0), of(theNaN)},
		{"zero by the other zero", Div(minusZero, 0), of(theNaN)},
		{"infinity by zero", Div(inf, minusZero), -inf},
		{"zeros", Add(0, minusZero), 0},
		{"zeros with a minus", Add(minusZero, minusZero), minusZero},
		{"zeros apart", Sub(0, 0), 0},
		{"zeros with a minus apart", Sub(minusZero, minusZero), 0},
		{"the one without the other", Sub(minusZero, 0), minusZero},
		{"one less itself", Add(1, -1), 0},
		{"zeros times", Mul(0, minusZero), minusZero},
		{"both with a minus", Mul(minusZero, -3), 0},
	} {
		sameBits(t, c.name, c.got, c.want)
	}
}

// P3.1: what makes no number makes the canonical one, whatever bits it has.
func TestNotNumberSpreads(t *testing.T) {
	for _, no := range notNumbers() {
		for _, f := range edges() {
			for _, got := range []float64{
				Add(no, f), Add(f, no), Sub(no, f), Sub(f, no), Mul(no, f), Mul(f, no), Div(no, f), Div(f, no), Neg(no),
			} {
				sameBits(t, show(no)+" with "+show(f), got, of(theNaN))
			}
		}
	}
}

// P3.1: each result is rounded by itself: (1 + 2^-30) squared, less 1 + 2^-29, would leave 2^-60.
func TestEachResultIsRounded(t *testing.T) {
	a := 1 + math.Ldexp(1, -30)
	b := 1 + math.Ldexp(1, -29)
	sameBits(t, "a sum of a product", Add(Mul(a, a), -b), 0)
	sameBits(t, "a product less", Sub(Mul(a, a), b), 0)
	sameBits(t, "less a product", Sub(b, Mul(a, a)), 0)
}

func TestNeg(t *testing.T) {
	for _, f := range numbersRising() {
		sameBits(t, "Neg of "+show(f), Neg(f), of(math.Float64bits(f)^signBit))
		sameBits(t, "Neg of Neg of "+show(f), Neg(Neg(f)), f)
	}
	sameBits(t, "Neg of 0", Neg(0), minusZero)
	sameBits(t, "Neg of -0", Neg(minusZero), 0)
}

// P3.2: as numbers, where they stand in the row; but both zeros are one.
func TestEqualAndLess(t *testing.T) {
	row := numbersRising()
	place := func(i int) int {
		if row[i] == 0 { // both
			return slices.Index(row, 0)
		}
		return i
	}
	for i, a := range row {
		for j, b := range row {
			if Equal(a, b) != (place(i) == place(j)) {
				t.Errorf("Equal(%v, %v): %v", a, b, Equal(a, b))
			}
			if Less(a, b) != (place(i) < place(j)) {
				t.Errorf("Less(%v, %v): %v", a, b, Less(a, b))
			}
		}
	}
	for _, no := range notNumbers() {
		for _, f := range edges() {
			if Equal(no, f) || Equal(f, no) || Less(no, f) || Less(f, no) {
				t.Error(show(no), "is equal to, or less or more than", show(f))
			}
		}
	}
}

// P3.2: the row, place by place.
func TestOrder(t *testing.T) {
	row := numbersRising()
	places := len(row)
	place := func(i int) int { return min(i, places) }
	all := append(row, notNumbers()...)
	for i, a := range all {
		for j, b := range all {
			want := place(i) - place(j)
			want = min(1, max(-1, want))
			if got := Order(a, b); got != want {
				t.Errorf("Order(%s, %s): %d, not %d", show(a), show(b), got, want)
			}
		}
	}
	if Order(minusZero, 0) != -1 || Order(0, minusZero) != 1 || Order(inf, of(theNaN|signBit)) != -1 {
		t.Error("the zeros, or what is no number")
	}
}

// P3.5: the order is total: of two just one stands first, unless they are one; and it holds over a third.
func TestOrderIsTotal(t *testing.T) {
	r := rand.New(rand.NewSource(3))
	list := edges()
	for range 60 {
		list = append(list, anyFloat(r), nearFloat(r))
	}
	for _, a := range list {
		for _, b := range list {
			ab := Order(a, b)
			if ab != -Order(b, a) || (ab == 0) != (math.Float64bits(Canon(a)) == math.Float64bits(Canon(b))) {
				t.Errorf("Order(%s, %s): %d", show(a), show(b), ab)
			}
			if Less(a, b) && ab != -1 {
				t.Error("less, but not ahead:", show(a), show(b))
			}
			for _, c := range list {
				if ab <= 0 && Order(b, c) <= 0 && Order(a, c) > 0 {
					t.Fatal("over a third:", show(a), show(b), show(c))
				}
			}
		}
	}
}

var texts = []struct {
	f    float64
	text string
}{
	{of(theNaN), "nan"}, {inf, "inf"}, {-inf, "-inf"}, {0, "0p0"}, {minusZero, "-0p0"},
	{1, "1p0"}, {-1, "-1p0"}, {2, "1p1"}, {12, "3p2"}, {-2.5, "-5p-1"}, {0.5, "1p-1"}, {1.5, "3p-1"}, {10, "5p1"}, {100, "25p2"},
	{0.1, "3602879701896397p-55"}, {-0.1, "-3602879701896397p-55"},
	{1<<53 - 1, "9007199254740991p0"}, {1 << 53, "1p53"}, {1<<53 + 2, "4503599627370497p1"},
	{math.MinInt64, "-1p63"}, {1e23, "2980232238769531p25"},
	{of(least), "1p-1074"}, {of(least | signBit), "-1p-1074"}, {of(2), "1p-1073"}, {of(3), "3p-1074"},
	{of(mostSmall), "4503599627370495p-1074"}, {of(leastNormal), "1p-1022"}, {of(leastNormal + 1), "4503599627370497p-1074"},
	{of(2 * leastNormal), "1p-1021"}, {of(2*leastNormal + 1), "4503599627370497p-1073"},
	{of(greatest), "9007199254740991p971"}, {of(greatest | signBit), "-9007199254740991p971"}, {math.Ldexp(1, 1023), "1p1023"},
}

func mustParse(t *testing.T, s string, want float64) {
	t.Helper()
	f, e := Parse(s)
	if e != api.OK {
		t.Errorf("Parse(%q): error %d", s, e)
	}
	sameBits(t, "Parse of "+s, f, want)
}

// mustRefuse asks for the error, and for nothing beside it: not even a sign.
func mustRefuse(t *testing.T, s string, want api.Errno) {
	t.Helper()
	if f, e := Parse(s); e != want || math.Float64bits(f) != 0 {
		t.Errorf("Parse(%.80q): %s, %d, not 0, %d", s, show(f), e, want)
	}
}

// P3.3, P3.5: each edge has one text, and it is read again.
func TestTexts(t *testing.T) {
	for _, c := range texts {
		if got := Text(c.f); got != c.text {
			t.Errorf("Text of %s: %q, not %q", show(c.f), got, c.text)
		}
		mustParse(t, c.text, c.f)
	}
	for _, f := range notNumbers() {
		if got := Text(f); got != "nan" {
			t.Errorf("Text of %s: %q", show(f), got)
		}
	}
}

var oddText = regexp.MustCompile(`^(-?[1-9][0-9]*)p(0|-?[1-9][0-9]*)$`)

// checkText holds Text of a finite float that isn't 0 against the words: M is odd, and M times 2^E is just it.
func checkText(t *testing.T, f float64) {
	t.Helper()
	text := Text(f)
	parts := oddText.FindStringSubmatch(text)
	if parts == nil {
		t.Fatalf("Text of %s: %q", show(f), text)
	}
	m, _ := new(big.Int).SetString(parts[1], 10)
	e, _ := strconv.Atoi(parts[2])
	if m.Bit(0) != 1 || times(m, e).Cmp(exact(f)) != 0 {
		t.Errorf("Text of %s: %q", show(f), text)
	}
	mustParse(t, text, f)
}

// times answers n times 2^e, exactly.
func times(n *big.Int, e int) *big.Rat {
	power := new(big.Int).Lsh(big.NewInt(1), uint(max(e, -e)))
	if e < 0 {
		return new(big.Rat).SetFrac(n, power)
	}
	return new(big.Rat).SetInt(new(big.Int).Mul(n, power))
}

func TestTextsOfMany(t *testing.T) {
	for _, f := range numbersRising() {
		if finite(f) && f != 0 {
			checkText(t, f)
		}
	}
	for e := -1074; e < 1024; e++ {
		f := math.Ldexp(1, e)
		checkText(t, f)
		checkText(t, -f)
		checkText(t, math.Nextafter(f, inf))
		if e > -1074 {
			checkText(t, math.Nextafter(f, 0))
		}
	}
	r := rand.New(rand.NewSource(4))
	for range 5000 {
		for _, f := range []float64{anyFloat(r), nearFloat(r), of(1 + r.Uint64()&mostSmall>>r.Intn(52)), float64(1 + r.Intn(1000))} {
			if finite(f) {
				checkText(t, f)
			}
		}
	}
}

// P3.3: all that may stand in a text, though Text wouldn't write it so.
func TestParseOtherTexts(t *testing.T) {
	for _, c := range []struct {
		text string
		want float64
	}{
		{"6p1", 12}, {"12p0", 12}, {"24p-1", 12}, {"-20p-3", -2.5}, {"003p02", 12}, {"3p0002", 12}, {"3p-0001", 1.5}, {"3p-0", 3}, {"3p-0000", 3},
		{"00000000000000000003p2", 12}, {"00009007199254740992p0", 1 << 53},
		{"0p9999", 0}, {"0p-9999", 0}, {"-0p9999", minusZero}, {"-0p-9999", minusZero}, {"00000000000000000000p0", 0}, {"-00000000000000000000p-0", minusZero}, {"0p1", 0}, {"0p0000", 0},
		{"9007199254740992p0", 1 << 53}, {"-9007199254740992p0", -1 << 53}, {"9007199254740990p0", 1<<53 - 2},
		{"9007199254740992p970", math.Ldexp(1, 1023)}, {"9007199254740990p970", math.Ldexp(4503599627370495, 971)},
		{"9007199254740991p-1074", of(2*leastNormal - 1)}, {"9007199254740990p-1075", of(mostSmall)},
		{"9007199254740992p-1127", of(least)}, {"-9007199254740992p-1127", of(least | signBit)}, {"9007199254740992p-1126", of(2)},
		{"2p-1075", of(least)}, {"6p-1075", of(3)}, {"4p-1076", of(least)}, {"1024p-1084", of(least)}, {"2p1022", math.Ldexp(1, 1023)}, {"4503599627370496p971", math.Ldexp(1, 1023)},
	} {
		mustParse(t, c.text, c.want)
	}
}

// P3.3: texts that are just not of the form; that they are out of range too counts less.
func TestParseForm(t *testing.T) {
	for _, s := range []string{
		"", " ", "-", "p", "-p", "p0", "-p0", "0", "-0", "12", "1p", "1p-", "-1p", "-1p-", "0p", "0p-", "1pp0", "1p0p", "1p0p0", "1p--1", "--1p0", "-p-1",
		"+1p0", "1p+0", "1p 0", " 1p0", "1p0 ", "1 p0", "1p0\n", "\n1p0", "1p0\x00", "\x001p0", "1P0", "1.5p0", "1e5", "1p0.5", "0x1p0", "1_0p0", "1,0p0", "/p0", ":p0", "0p/", "0p:", "9p9:", "a", "ap0", "1pa",
		"1-p0", "1p1-", "1p1-1", "-1-p0", "1p-1-",
		"000000000000000000001p0", "000000000000000000000p0", "100000000000000000000p0", "-123456789012345678901p0", "1p00000", "1p-00000", "1p12345", "0p00001", "99999999999999999999p99999",
		"nan ", " nan", "NaN", "Nan", "NAN", "-nan", "+nan", "nanp0", "na", "nann", "inf ", "Inf", "INF", "+inf", "--inf", "in", "inff", "infinity", "infp0", "-Inf", "1pinf", "infp", "1pnan",
		"\u0661p0", "1p\u0661", "\uff11p0", "\u22121p0", "1p\u22121", "\xb1p0", "1p\xb1",
	} {
		mustRefuse(t, s, api.ErrForm)
	}
	long := strings.Repeat("7", 1<<20)
	for _, s := range []string{long, long + "p0", "-" + long + "p0", "1p" + long, "1p-" + long, strings.Repeat("-", 1<<20), strings.Repeat("p", 1<<20), strings.Repeat("1p", 1<<20)} {
		mustRefuse(t, s, api.ErrForm)
	}
}

// P3.3: texts that are of the form, but just out of range.
func TestParseRange(t *testing.T) {
	for _, s := range []string{
		"9007199254740993p0", "-9007199254740993p0", "9007199254740994p0", "09007199254740993p0", "18014398509481984p0", "18014398509481984p-1", "9007199254740993p-9999", "9007199254740993p9999",
		"9223372036854775808p0", "18446744073709551615p0", "18446744073709551616p0", "18446744073709551617p0", "-18446744073709551616p0", "36893488147419103232p0", "99999999999999999999p0", "90071992547409920000p0", "10000000000000000000p0",
		"1p1024", "-1p1024", "2p1023", "3p1023", "9007199254740992p971", "9007199254740991p972", "4503599627370496p972", "1p9999", "-9007199254740992p9999",
		"1p-1075", "-1p-1075", "3p-1075", "2p-1076", "6p-1076", "9007199254740991p-1075", "9007199254740990p-1076", "9007199254740992p-1128", "4503599627370497p-1075", "1p-9999", "9007199254740992p-9999", "-1p-2000",
	} {
		mustRefuse(t, s, api.ErrRange)
	}
}

var form = regexp.MustCompile(`^(?:nan|-?inf|(-?)([0-9]{1,20})p(-?[0-9]{1,4}))$`)

// checkParse holds Parse against the words, with exact numbers.
func checkParse(t *testing.T, s string) {
	t.Helper()
	parts := form.FindStringSubmatch(s)
	switch {
	case parts == nil:
		mustRefuse(t, s, api.ErrForm)
		return
	case parts[2] == "":
		mustParse(t, s, map[string]float64{"nan": of(theNaN), "inf": inf, "-inf": -inf}[s])
		return
	}
	n, _ := new(big.Int).SetString(parts[2], 10)
	e, _ := strconv.Atoi(parts[3])
	x := times(n, e)
	f, _ := x.Float64()
	if n.Cmp(big.NewInt(1<<53)) > 0 || math.IsInf(f, 0) || exact(f).Cmp(x) != 0 {
		mustRefuse(t, s, api.ErrRange)
		return
	}
	if parts[1] == "-" {
		f = math.Copysign(f, -1)
	}
	mustParse(t, s, f)
}

func TestParseEveryShortText(t *testing.T) {
	list := []string{""}
	for range 6 {
		for _, s := range list {
			checkParse(t, s)
		}
		var longer []string
		for _, s := range list {
			for _, c := range []string{"-", "0", "1", "9", "p", " "} {
				longer = append(longer, s+c)
			}
		}
		list = longer
	}
}

func TestParseMany(t *testing.T) {
	r := rand.New(rand.NewSource(5))
	for range 20000 {
		n := r.Uint64() >> r.Intn(64)
		switch r.Intn(3) {
		case 0:
			n = uint64(1)<<r.Intn(64) + uint64(r.Intn(5)) - 2
		case 1:
			n &= 1<<53 - 1
		}
		s := strconv.FormatUint(n, 10)
		s = strings.Repeat("0", r.Intn(4)) + s
		e := []int{-1074, -1022, -53, 0, 53, 971, 1023, r.Intn(2400) - 1200}[r.Intn(8)] + r.Intn(120) - 60
		s += "p" + strconv.Itoa(e)
		if r.Intn(2) == 0 {
			s = "-" + s
		}
		checkParse(t, s)
		at := r.Intn(len(s))
		checkParse(t, s[:at])
		checkParse(t, s[:at]+s[at+1:])
		checkParse(t, s[:at]+string("-p09n "[r.Intn(6)])+s[at:])
	}
}

// P3.4: towards 0, and no further than whole numbers of 64 bits go.
func TestToInt(t *testing.T) {
	for _, c := range []struct {
		f    float64
		want int64
	}{
		{0, 0}, {minusZero, 0}, {of(least), 0}, {of(least | signBit), 0}, {0.5, 0}, {-0.5, 0}, {of(0x3FEFFFFFFFFFFFFF), 0}, {-of(0x3FEFFFFFFFFFFFFF), 0},
		{1, 1}, {-1, -1}, {1.5, 1}, {2.5, 2}, {-2.5, -2}, {2.999, 2}, {-2.999, -2}, {1 << 31, 1 << 31}, {-1<<31 - 1, -1<<31 - 1}, {1 << 32, 1 << 32},
		{1<<52 - 0.5, 1<<52 - 1}, {-1<<52 + 0.5, -1<<52 + 1}, {1<<53 + 2, 1<<53 + 2}, {1 << 62, 1 << 62}, {1<<63 - 1024, 1<<63 - 1024}, {-1 << 63, math.MinInt64}, {-1<<63 + 1024, -1<<63 + 1024},
	} {
		if n, e := ToInt(c.f); n != c.want || e != api.OK {
			t.Errorf("ToInt(%v): %d, %d, not %d", c.f, n, e, c.want)
		}
	}
	for _, f := range append(notNumbers(), inf, -inf, 1<<63, math.Nextafter(1<<63, inf), math.Nextafter(-1<<63, -inf), 1<<64, -1<<64, 1e300, -1e300, of(greatest), -of(greatest)) {
		if n, e := ToInt(f); n != 0 || e != api.ErrRange {
			t.Errorf("ToInt(%v): %d, %d", f, n, e)
		}
	}
}

func TestToIntMany(t *testing.T) {
	r := rand.New(rand.NewSource(6))
	for range 20000 {
		f := math.Ldexp(nearFloat(r), r.Intn(80)-20)
		whole, _ := new(big.Float).SetFloat64(f).Int(nil)
		want, wantE := int64(0), api.ErrRange
		if whole.IsInt64() {
			want, wantE = whole.Int64(), api.OK
		}
		if n, e := ToInt(f); n != want || e != wantE {
			t.Errorf("ToInt(%v): %d, %d, not %d, %d", f, n, e, want, wantE)
		}
	}
}

// P3.4: the nearest one, halves to the even.
func TestFromInt(t *testing.T) {
	for _, c := range []struct {
		n    int64
		want float64
	}{
		{0, 0}, {1, 1}, {-1, -1}, {1<<53 - 1, 1<<53 - 1}, {1 << 53, 1 << 53}, {1<<53 + 1, 1 << 53}, {1<<53 + 2, 1<<53 + 2}, {1<<53 + 3, 1<<53 + 4}, {-1<<53 - 1, -1 << 53}, {-1<<53 - 3, -1<<53 - 4},
		{1<<54 + 2, 1 << 54}, {1<<54 + 3, 1<<54 + 4}, {1<<54 + 6, 1<<54 + 8}, {1<<62 + 256, 1 << 62}, {1<<62 + 257, 1<<62 + 512}, {1<<62 + 768, 1<<62 + 1024},
		{math.MaxInt64, 1 << 63}, {math.MaxInt64 - 511, 1 << 63}, {math.MaxInt64 - 512, 1<<63 - 1024}, {math.MinInt64, -1 << 63}, {math.MinInt64 + 512, -1 << 63}, {math.MinInt64 + 513, -1<<63 + 1024},
	} {
		sameBits(t, "FromInt of "+strconv.FormatInt(c.n, 10), FromInt(c.n), c.want)
	}
	r := rand.New(rand.NewSource(7))
	for range 20000 {
		n := int64(r.Uint64()) >> r.Intn(64)
		want, _ := new(big.Float).SetPrec(53).SetMode(big.ToNearestEven).SetInt64(n).Float64()
		sameBits(t, "FromInt of "+strconv.FormatInt(n, 10), FromInt(n), want)
		if back, e := ToInt(FromInt(n)); n>>53 == 0 && (back != n || e != api.OK) {
			t.Error("there and back:", n, back, e)
		}
	}
}
