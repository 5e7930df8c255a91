package lex

import (
	"fmt"
	"math"
	"math/big"
	"math/rand"
	"regexp"
	"slices"
	"strings"
	"testing"
	"unsafe"

	"bascule/api"
	"bascule/value"
)

const theNaN = 0x7FF8000000000000

const blanks = " \t\n\r"

// signs are all that there are.
var signs = strings.Fields("== <= && || ( ) [ ] { } , : . ? + - * / % ! <")

var words = strings.Fields("true false nan inf len float int str")

func x(s string, n int) string { return strings.Repeat(s, n) }

func whole(n int64) api.Token   { return api.Token{Kind: api.KInt, N: n} }
func flo(f float64) api.Token   { return api.Token{Kind: api.KFloat, F: f} }
func str(s string) api.Token    { return api.Token{Kind: api.KStr, S: s} }
func named(s string) api.Token  { return api.Token{Kind: api.KName, S: s} }
func signed(s string) api.Token { return api.Token{Kind: api.KSign, S: s} }

func nan() api.Token { return flo(math.Float64frombits(theNaN)) }

// placed answers a token from a place up to another one.
func placed(t api.Token, at, next int) api.Token {
	t.At, t.Next = at, next
	return t
}

// same holds floats bit by bit.
func same(a, b api.Token) bool {
	return math.Float64bits(a.F) == math.Float64bits(b.F) && a.Kind == b.Kind && a.At == b.At && a.Next == b.Next && a.N == b.N && a.S == b.S
}

// What the tokens are, by the document's words, of what stands behind the blanks.
var (
	isBlank  = regexp.MustCompile(`^[ \t\n\r]*`)
	isNumber = regexp.MustCompile(`^([0-9]+)(p(-?)([0-9]*))?`)
	isName   = regexp.MustCompile(`^[a-z][a-z0-9_]*`)
	isString = regexp.MustCompile(`^"((?:[^"\\]|\\["\\])*)"`)
	isBroken = regexp.MustCompile(`^"(?:[^"\\]|\\["\\])*\\[^"\\]`)
	isSign   = regexp.MustCompile(`^(?:==|<=|&&|\|\||[()\[\]{},:.?+\-*/%!<])`)
)

// seek answers by hand the first token from a place on.
func seek(text string, at int) (api.Token, api.Errno) {
	if at < 0 || at > len(text) || len(text) > 2000 {
		return api.Token{}, api.ErrRange
	}
	at += len(isBlank.FindString(text[at:]))
	t, e := seekHere(text[at:])
	if e != api.OK {
		return api.Token{}, e
	}
	return placed(t, at, at+t.Next), e
}

// seekHere answers the token with which s begins; Next is how long it is.
func seekHere(s string) (api.Token, api.Errno) {
	if s == "" {
		return api.Token{Kind: api.KEnd}, api.OK
	}
	if found := isNumber.FindStringSubmatch(s); found != nil {
		if found[2] != "" {
			f, e := seekFloat(found[1], found[3]+found[4])
			return placed(flo(f), 0, len(found[0])), e
		}
		n, _ := new(big.Int).SetString(found[1], 10)
		if len(found[1]) > 19 || !n.IsInt64() {
			return api.Token{}, api.ErrRange
		}
		return placed(whole(n.Int64()), 0, len(found[1])), api.OK
	}
	if found := isName.FindString(s); found != "" {
		return seekName(found)
	}
	if found := isString.FindStringSubmatch(s); found != nil {
		inside := regexp.MustCompile(`(?s)\\(.)`).ReplaceAllString(found[1], "$1")
		if len(inside) > 200 {
			return api.Token{}, api.ErrRange
		}
		return placed(str(inside), 0, len(found[0])), api.OK
	}
	if isBroken.MatchString(s) {
		return api.Token{}, api.ErrForm
	}
	if s[0] == '"' {
		return api.Token{}, api.ErrTorn
	}
	if found := isSign.FindString(s); found != "" {
		return placed(signed(found), 0, len(found)), api.OK
	}
	return api.Token{}, api.ErrForm
}

func seekName(s string) (api.Token, api.Errno) {
	switch {
	case s == "nan":
		return placed(nan(), 0, 3), api.OK
	case s == "inf":
		return placed(flo(math.Inf(1)), 0, 3), api.OK
	case len(s) > 30:
		return api.Token{}, api.ErrRange
	}
	return placed(named(s), 0, len(s)), api.OK
}

// seekFloat answers by exact numbers what digits and an exponent are.
func seekFloat(digits, exponent string) (float64, api.Errno) {
	size := strings.TrimPrefix(exponent, "-")
	if len(digits) > 20 || len(size) < 1 || len(size) > 4 {
		return 0, api.ErrForm
	}
	n, _ := new(big.Rat).SetString(digits)
	power, _ := new(big.Int).SetString(size, 10)
	times := new(big.Rat).SetInt(new(big.Int).Lsh(big.NewInt(1), uint(power.Int64())))
	if exponent[0] == '-' {
		times.Inv(times)
	}
	exact := new(big.Rat).Mul(n, times)
	f, _ := exact.Float64()
	if back := new(big.Rat).SetFloat64(f); n.Cmp(new(big.Rat).SetInt64(1<<53)) > 0 || back == nil || back.Cmp(exact) != 0 { // nil: the infinity
		return 0, api.ErrRange
	}
	return f, api.OK
}

// seekAll answers by hand all tokens, one by one.
func seekAll(text string) (l []api.Token, at int, e api.Errno) {
	if len(text) > 2000 {
		return nil, 0, api.ErrRange
	}
	for {
		t, e := seek(text, at)
		if e != api.OK {
			return nil, at + len(isBlank.FindString(text[at:])), e
		}
		if t.Kind == api.KEnd {
			return l, 0, api.OK
		}
		l, at = append(l, t), t.Next
	}
}

func checkNext(t *testing.T, text string, at int, want api.Token, e api.Errno) {
	t.Helper()
	if got, gotE := Next(text, at); !same(got, want) || gotE != e {
		t.Fatalf("%.60q (%d bytes) at %d: %#v, error %d, not %#v, error %d", text, len(text), at, got, gotE, want, e)
	}
}

func checkAll(t *testing.T, text string, want []api.Token, at int, e api.Errno) {
	t.Helper()
	if got, gotAt, gotE := All(text); !slices.EqualFunc(got, want, same) || gotAt != at || gotE != e {
		t.Fatalf("%.60q (%d bytes): %#v at %d, error %d, not %#v at %d, error %d", text, len(text), got, gotAt, gotE, want, at, e)
	}
}

// checkText holds all that is read of a text, from each place on, against what is read by hand.
func checkText(t *testing.T, text string) {
	t.Helper()
	for at := range len(text) + 1 {
		want, e := seek(text, at)
		checkNext(t, text, at, want, e)
	}
	want, at, e := seekAll(text)
	checkAll(t, text, want, at, e)
}

// Tokens and bytes that stand ahead of a token and don't touch it.
var ahead = []string{"", " ", "\t\n\r ", "(", "1+", `"q"`, "a.", x(" ", 300)}

// checkToken wants s to be read as one token, whatever stands ahead of it, with something behind it.
func checkToken(t *testing.T, s string, want api.Token, behind ...string) {
	t.Helper()
	for _, behind := range append([]string{"", " ", ")", " " + s, ",?"}, behind...) {
		for _, ahead := range ahead {
			checkNext(t, ahead+s+behind, len(ahead), placed(want, len(ahead), len(ahead)+len(s)), api.OK)
		}
	}
	checkAll(t, "  "+s+"\n", []api.Token{placed(want, 2, 2+len(s))}, 0, api.OK)
	checkAll(t, s, []api.Token{placed(want, 0, len(s))}, 0, api.OK)
}

// checkError wants an error where s begins, and All to tell just that place.
func checkError(t *testing.T, s string, e api.Errno, behind ...string) {
	t.Helper()
	for _, behind := range append([]string{""}, behind...) {
		for _, ahead := range ahead {
			checkNext(t, ahead+s+behind, len(ahead), api.Token{}, e)
			checkNext(t, ahead+"  "+s+behind, len(ahead), api.Token{}, e)
			checkAll(t, ahead+s+behind, nil, len(ahead), e)
			checkAll(t, ahead+"\r\n"+s+behind, nil, len(ahead)+2, e)
		}
	}
}

// P7.1, P7.2: the chapter's examples.
func TestExamples(t *testing.T) {
	checkAll(t, "x1 <= 3p-1", []api.Token{placed(named("x1"), 0, 2), placed(signed("<="), 3, 5), placed(flo(1.5), 6, 10)}, 0, api.OK)
	checkNext(t, `a"`, 0, placed(named("a"), 0, 1), api.OK)
	checkAll(t, `a"`, nil, 1, api.ErrTorn)
	checkError(t, "12p", api.ErrForm)
	checkError(t, "&", api.ErrForm)
}

// P7.1: places that are none, and texts that are too long.
func TestRange(t *testing.T) {
	for _, text := range []string{"", " ", "a", "1 2", `"`, "&", x("a", 2000)} {
		for _, at := range []int{-1, -2, len(text) + 1, len(text) + 2, 2001, math.MinInt, math.MaxInt, math.MinInt32, math.MaxInt32} {
			checkNext(t, text, at, api.Token{}, api.ErrRange)
		}
		checkNext(t, text, len(text), placed(api.Token{Kind: api.KEnd}, len(text), len(text)), api.OK)
	}
	for _, fill := range []string{" ", "(", "a ", `" "`, "&", "\x00"} {
		longest := x(fill, 2000)[:2000]
		checkText(t, longest)
		for _, more := range []string{" ", "1", "&", `"`} {
			for _, at := range []int{-1, 0, 1, 1000, 1999, 2000, 2001, 2002} {
				checkNext(t, longest+more, at, api.Token{}, api.ErrRange)
			}
			checkAll(t, longest+more, nil, 0, api.ErrRange)
		}
		for _, n := range []int{2002, 4000, 1 << 20} {
			checkNext(t, x(fill, n), 0, api.Token{}, api.ErrRange)
			checkAll(t, x(fill, n), nil, 0, api.ErrRange)
		}
	}
	full, at, e := All(x("(", 2000))
	if len(full) != 2000 || at != 0 || e != api.OK {
		t.Errorf("2000 signs: %d tokens at %d, error %d", len(full), at, e)
	}
}

// P7.1: the end stands at the text's length, however many blanks are ahead of it.
func TestEnd(t *testing.T) {
	for _, text := range []string{"", " ", "\t", "\n", "\r", "  ", " \t\n\r", "\r\n\r\n", x(" ", 2000)} {
		for at := range len(text) + 1 {
			checkNext(t, text, at, placed(api.Token{Kind: api.KEnd}, len(text), len(text)), api.OK)
		}
		checkAll(t, text, nil, 0, api.OK)
		checkNext(t, "a"+text[:min(len(text), 1999)], 1, placed(api.Token{Kind: api.KEnd}, 1+min(len(text), 1999), 1+min(len(text), 1999)), api.OK)
	}
}

// P7.1: the four blanks alone are passed over.
func TestBlanks(t *testing.T) {
	for c := range 256 {
		one := string([]byte{byte(c)})
		text := one + "(" + one + ")"
		if strings.Contains(blanks, one) {
			checkAll(t, text, []api.Token{placed(signed("("), 1, 2), placed(signed(")"), 3, 4)}, 0, api.OK)
			checkNext(t, text, 0, placed(signed("("), 1, 2), api.OK)
			checkNext(t, text, 2, placed(signed(")"), 3, 4), api.OK)
		} else if got, e := Next(text, 0); e == api.OK && got.At != 0 {
			t.Errorf("byte %d is passed over", c)
		}
	}
	for _, s := range []string{"\v", "\f", "\x00", "\x85", "\xa0", "\u00a0", "\u2003", "\ufeff"} {
		checkError(t, s, api.ErrForm, "a", " ", "1")
	}
}

// P7.1: each byte by itself, and each two, and what they are between others.
func TestBytes(t *testing.T) {
	for a := range 256 {
		one := string([]byte{byte(a)})
		checkText(t, one)
		for b := range 256 {
			two := one + string([]byte{byte(b)})
			checkText(t, two)
			checkText(t, "1"+two+"b")
			checkText(t, `"`+two+`"`)
		}
	}
}

// P7.1, P7.2: every short text of the bytes that matter.
func TestShortTexts(t *testing.T) {
	checkTexts(t, "0p-an_\"\\=<& (Z", 4)
	checkTexts(t, "1p-\"\\a ", 6)
	checkTexts(t, "=<&|-!", 6)
}

func checkTexts(t *testing.T, bytes string, most int) {
	t.Helper()
	texts := []string{""}
	for range most {
		var longer []string
		for _, text := range texts {
			for i := range len(bytes) {
				longer = append(longer, text+bytes[i:i+1])
			}
		}
		for _, text := range longer {
			checkText(t, text)
		}
		texts = longer
	}
}

// P7.1 to P7.3: texts put together of tokens, of what is just none, and of blanks.
func TestMixedTexts(t *testing.T) {
	pieces := append(slices.Concat(signs, words), "0", "7", "007", "9223372036854775807", "9223372036854775808", "1p0", "3p-1", "1p", "1p-", "1p1024", "0p9999", "9007199254740993p0", "a", "x_1", "p", "p5", x("a", 30), x("b", 31), `""`, `"a"`, `"\""`, `"\\"`, `"\n"`, `"`, "\\", "_", "A", "=", "&", "|", ">", "\x00", "é", " ", "\t", "\n", "\r")
	r := rand.New(rand.NewSource(1))
	for range 20000 {
		var text strings.Builder
		for range r.Intn(8) {
			text.WriteString(pieces[r.Intn(len(pieces))])
		}
		checkText(t, text.String())
	}
}

// P7.1: ints on both sides of what they may be.
func TestInts(t *testing.T) {
	for s, want := range map[string]int64{
		"0": 0, "00": 0, "1": 1, "007": 7, "10": 10, "1234567890": 1234567890, "9007199254740993": 9007199254740993, "999999999999999999": 999999999999999999,
		"1000000000000000000": 1000000000000000000, "9223372036854775806": math.MaxInt64 - 1, "9223372036854775807": math.MaxInt64, "0000000000000000000": 0, "0000000000000000001": 1, "0999999999999999999": 999999999999999999,
	} {
		checkToken(t, s, whole(want), "a", "_", "x1", ".", "-1", "q5", `"p"`, " p1", "P1", "e5")
	}
	for _, s := range []string{"9223372036854775808", "9999999999999999999", "00000000000000000000", "00000000000000000001", "09223372036854775807", "10000000000000000000", "18446744073709551615", "18446744073709551616", "18446744073709551617", x("9", 38), x("0", 300), x("1", 300)} {
		checkError(t, s, api.ErrRange, " ", "a", "(", " p1", "&")
	}
	checkNext(t, "-1", 0, placed(signed("-"), 0, 1), api.OK)
	checkNext(t, "+1", 0, placed(signed("+"), 0, 1), api.OK)
	checkNext(t, "1_0", 0, placed(whole(1), 0, 1), api.OK)
	checkError(t, "_1", api.ErrForm)
	checkNext(t, "0x1f", 0, placed(whole(0), 0, 1), api.OK)
	checkNext(t, "123", 1, placed(whole(23), 1, 3), api.OK)
}

// P7.1: floats, as their digits say; more of what might be one stands behind them.
func TestFloats(t *testing.T) {
	for s, want := range map[string]float64{
		"0p0": 0, "1p0": 1, "3p2": 12, "3p-1": 1.5, "0p5": 0, "0p9999": 0, "0p-9999": 0, "000p0001": 0, "5p-0": 5, "12p0": 12, "8p-3": 1, "1p-0001": 0.5, "00000000000000000001p0": 1,
		"1p1023": math.Ldexp(1, 1023), "9007199254740991p971": math.MaxFloat64, "1p-1074": math.SmallestNonzeroFloat64, "2p-1075": math.SmallestNonzeroFloat64, "9007199254740992p0": 1 << 53, "3602879701896397p-55": 0.1,
	} {
		checkToken(t, s, flo(want), "a", "p", "p5", "-1", "_", "nan", ".5", "x", "P")
	}
	checkAll(t, "1p2p3", []api.Token{placed(flo(4), 0, 3), placed(named("p3"), 3, 5)}, 0, api.OK)
	checkAll(t, "1p2x", []api.Token{placed(flo(4), 0, 3), placed(named("x"), 3, 4)}, 0, api.OK)
	checkAll(t, "1p2-3", []api.Token{placed(flo(4), 0, 3), placed(signed("-"), 3, 4), placed(whole(3), 4, 5)}, 0, api.OK)
	checkAll(t, "1 p2", []api.Token{placed(whole(1), 0, 1), placed(named("p2"), 2, 4)}, 0, api.OK)
	checkAll(t, "1p2 3", []api.Token{placed(flo(4), 0, 3), placed(whole(3), 4, 5)}, 0, api.OK)
}

// P7.1: each error that float.Parse has. No digit behind a p, or behind its minus, is no way back to an int and a name.
func TestFloatErrors(t *testing.T) {
	for _, s := range []string{"12p", "0p", "1p-", "1p--1", "1p+1", "1p 1", "1p- 1", "1px", "1p-x", "1pp1", "1p_1", "1p.5", "1pinf", "1p-nan", "12p(", `1p"1"`, "9223372036854775808p", "9007199254740993p", "9007199254740993p-"} {
		checkError(t, s, api.ErrForm, " ", "a", "-")
	}
	for _, s := range []string{"123456789012345678901p0", "000000000000000000000p0", x("0", 300) + "p0", "1p00000", "1p-00000", "1p12345", "0p10000", "0p-10000", "9007199254740993p00000", "1p" + x("0", 300)} { // too many digits
		checkError(t, s, api.ErrForm, " ", "a", "-", ".5")
	}
	for _, s := range []string{"9007199254740993p0", "9007199254740994p-1", "99999999999999999999p0", "1p1024", "1p9999", "1p-1075", "3p-1075", "1p-9999", "9007199254740991p972", "18446744073709551616p0", "18446744073709551617p0"} { // just no float
		checkError(t, s, api.ErrRange, " ", "a", "-", ".5")
	}
}

// P7.1: nan and inf are floats by themselves alone.
func TestNanInf(t *testing.T) {
	checkToken(t, "nan", nan(), ".a", "-1")
	checkToken(t, "inf", flo(math.Inf(1)), ".a", "-1")
	for _, s := range []string{"nan_", "nan1", "nana", "na", "xnan", "inf_", "inf0", "info", "in", "infinity", "nanp1", "inff", "nannan"} {
		checkToken(t, s, named(s), "-", ".")
	}
	checkAll(t, "-inf", []api.Token{placed(signed("-"), 0, 1), placed(flo(math.Inf(1)), 1, 4)}, 0, api.OK)
	checkAll(t, "1nan", []api.Token{placed(whole(1), 0, 1), placed(nan(), 1, 4)}, 0, api.OK)
	checkError(t, "NaN", api.ErrForm)
	checkError(t, "Inf", api.ErrForm)
}

// P7.1: names up to 30 bytes, and one beyond; words are names here.
func TestNames(t *testing.T) {
	for _, s := range []string{"a", "z", "p", "p1", "x1", "a_", "a__b", "e0", "abcdefghijklmnopqrstuvwxyz", "z0123456789_", "true", "false", "len", "float", "int", "str", x("a", 29), x("a", 30), "z" + x("_", 29), "q" + x("9", 29), "nan" + x("0", 27)} {
		checkToken(t, s, named(s), "-", "A", "é", "\x00", "@", `"`, "&", "`", "{", "/", ":", "^")
	}
	for _, s := range []string{x("a", 31), x("a", 32), "z" + x("_", 30), "q" + x("9", 30), "nan" + x("0", 28), "inf" + x("a", 28), "true" + x("a", 27), x("ab1_", 75)} {
		checkError(t, s, api.ErrRange, " ", "A", "(", "&", `"`)
	}
	for _, s := range []string{"A", "_", "_a", "É", "é", "@", "`", "Z1", "$a"} {
		checkError(t, s, api.ErrForm, " ", "a", "1")
	}
	checkNext(t, x("a", 31), 1, placed(named(x("a", 30)), 1, 31), api.OK)
}

// P7.1: strings, with what may stand behind a backslash.
func TestStrings(t *testing.T) {
	all := make([]byte, 0, 256)
	for c := range 256 {
		if c != '"' && c != '\\' {
			all = append(all, byte(c))
		}
	}
	half := string(all[:len(all)/2])
	for s, want := range map[string]string{
		`""`: "", `"a"`: "a", `" "`: " ", `"ab"`: "ab", `"\""`: `"`, `"\\"`: `\`, `"\\\\"`: `\\`, `"\\\""`: `\"`, `"\"\""`: `""`, `"\"\\"`: `"\`, `"a\"b\\c"`: `a"b\c`, `"\\n"`: `\n`,
		"\"\n\t\r\"": "\n\t\r", "\"\x00\xff\"": "\x00\xff", `"é"`: "é", `"1p"`: "1p", `"&"`: "&", `"nan"`: "nan",
		`"` + half + `"`: half, `"` + string(all[len(half):]) + `"`: string(all[len(half):]),
	} {
		checkToken(t, s, str(want), "a", `"`, `\`, "1", "&", "\n", `""`)
	}
	checkAll(t, `"a""b"`, []api.Token{placed(str("a"), 0, 3), placed(str("b"), 3, 6)}, 0, api.OK)
	checkAll(t, `a"b"1`, []api.Token{placed(named("a"), 0, 1), placed(str("b"), 1, 4), placed(whole(1), 4, 5)}, 0, api.OK)
}

// P7.1: a backslash ahead of any other byte, whether the string ends or not.
func TestStringForm(t *testing.T) {
	for c := range 256 {
		if c == '"' || c == '\\' {
			continue
		}
		one := string([]byte{byte(c)})
		for _, s := range []string{`"\` + one + `"`, `"\` + one, `"a\\\"\` + one, `"` + x("a", 300) + `\` + one} {
			checkError(t, s, api.ErrForm, "", " ", `"`, `\`, x("a", 300)+`"`)
		}
	}
}

// P7.1: a string's bytes are counted as they are meant: 200 may be, 201 may not.
func TestStringRange(t *testing.T) {
	for _, one := range []string{"a", " ", "\n", "\xff", `\"`, `\\`} {
		meant := one[len(one)-1:]
		checkToken(t, `"`+x(one, 199)+`"`, str(x(meant, 199)))
		checkToken(t, `"`+x(one, 200)+`"`, str(x(meant, 200)))
		for _, n := range []int{201, 202, 300} {
			checkError(t, `"`+x(one, n)+`"`, api.ErrRange, " ", `"`, "&")
			checkError(t, `"`+x(one, n), api.ErrTorn, "", " ", `\`)
			checkError(t, `"`+x(one, n)+`\a"`, api.ErrForm, "", `"`)
		}
	}
	checkToken(t, `"`+x("a", 199)+`\""`, str(x("a", 199)+`"`))
	checkError(t, `"`+x("a", 200)+`\""`, api.ErrRange)
	checkToken(t, `"`+x("é", 100)+`"`, str(x("é", 100)))
	checkError(t, `"`+x("é", 100)+`a"`, api.ErrRange)
	longest := `"` + x(`\"`, 999) + `"`
	checkNext(t, longest, 0, api.Token{}, api.ErrRange)
	checkNext(t, longest[:1999], 0, api.Token{}, api.ErrTorn)
}

// P7.1: a string that is cut off at each place, the one within an escape too.
func TestStringTorn(t *testing.T) {
	for _, s := range []string{`""`, `"a"`, `"\""`, `"\\"`, `"a\"b\\c"`, `"\\\\\\"`, `"` + x("a", 200) + `"`, `"` + x("b", 250) + `"`, "\"\n \t\""} {
		for end := 1; end < len(s); end++ {
			checkError(t, s[:end], api.ErrTorn)
		}
	}
	checkError(t, `"\`, api.ErrTorn)
	checkError(t, `"\\\`, api.ErrTorn)
	checkError(t, `"`, api.ErrTorn, "a", " ", "\n", "1+", "&")
}

// P7.1: all signs, and what of them is none by itself.
func TestSigns(t *testing.T) {
	for _, s := range signs {
		behind := []string{"a", "1", `"`, "(", "\x00", "&", "|", ">"}
		if s != "<" {
			behind = append(behind, "=", "==")
		}
		checkToken(t, s, signed(s), behind...)
	}
	for _, s := range []string{"=", "&", "|"} {
		checkError(t, s, api.ErrForm, " ", " "+s, "a", "1", "(", "<", "\x00")
	}
	for _, s := range []string{"=<", "=&", "&|", "|&", "=>", "&=", "|=", ">", ">=", ">>", "~", "^", "@", "#", "$", ";", "'", "`", "\\", "_", "\x00", "\x7f", "\x80", "\xff", "é"} {
		checkError(t, s, api.ErrForm, " ", "a")
	}
	for text, want := range map[string]string{
		"===": "== E", "====": "== ==", "<==": "<= E", "<===": "<= ==", "<<=": "< <=", "<=<": "<= <", "<&&": "< &&", "&&&": "&& E", "&&&&": "&& &&", "|||": "|| E", "||||": "|| ||", "!=": "! E", "!==": "! ==", "< =": "< E",
		"= =": "E", "& &": "E", "<-": "< -", "--": "- -", "!!": "! !", "((": "( (", "?.": "? .", "::": ": :", "[]": "[ ]", "{}": "{ }", "+=": "+ E", "**": "* *", "//": "/ /", "%%": "% %", ",,": ", ,", "..": ". .",
	} {
		checkSigns(t, text, strings.Fields(want))
	}
}

// checkSigns wants these signs, one behind the other; E is ErrForm.
func checkSigns(t *testing.T, text string, want []string) {
	t.Helper()
	at := 0
	for _, s := range want {
		got, e := Next(text, at)
		if s == "E" {
			if e != api.ErrForm {
				t.Errorf("%q at %d: %#v, error %d", text, at, got, e)
			}
			return
		}
		if e != api.OK || got.Kind != api.KSign || got.S != s {
			t.Fatalf("%q at %d: %#v, error %d, not %s", text, at, got, e, s)
		}
		at = got.Next
	}
	if at != len(text) {
		t.Errorf("%q ends at %d", text, at)
	}
}

// P7.2: no tokens beside an error, and the place of the first one that isn't one.
func TestAllErrors(t *testing.T) {
	for _, c := range []struct {
		text string
		at   int
		e    api.Errno
	}{
		{"a + &", 4, api.ErrForm}, {"&", 0, api.ErrForm}, {"  &", 2, api.ErrForm}, {"a &b& c", 2, api.ErrForm}, {"1 12p 99999999999999999999", 2, api.ErrForm}, {"1 99999999999999999999 12p", 2, api.ErrRange},
		{`x "\n`, 2, api.ErrForm}, {`x "y`, 2, api.ErrTorn}, {"f(1p1024)", 2, api.ErrRange}, {"a\n\t" + x("b", 31), 3, api.ErrRange}, {`"` + x("a", 201) + `" &`, 0, api.ErrRange}, {`"a" "` + x("a", 201) + `" &`, 4, api.ErrRange}, {x("(", 1999) + "&", 1999, api.ErrForm}, {x(" ", 1999) + "_", 1999, api.ErrForm},
	} {
		checkAll(t, c.text, nil, c.at, c.e)
		checkText(t, c.text)
	}
}

// P7.2: KEnd isn't among the tokens.
func TestAll(t *testing.T) {
	checkAll(t, "", nil, 0, api.OK)
	checkAll(t, " a ", []api.Token{placed(named("a"), 1, 2)}, 0, api.OK)
	checkAll(t, `len(a)<=1p0?nan:"\""`, []api.Token{
		placed(named("len"), 0, 3), placed(signed("("), 3, 4), placed(named("a"), 4, 5), placed(signed(")"), 5, 6), placed(signed("<="), 6, 8), placed(flo(1), 8, 11),
		placed(signed("?"), 11, 12), placed(nan(), 12, 15), placed(signed(":"), 15, 16), placed(str(`"`), 16, 20),
	}, 0, api.OK)
}

// P7.2: the eight words of the language.
func TestWord(t *testing.T) {
	for _, s := range words {
		if !Word(s) {
			t.Errorf("%s is no word", s)
		}
		for _, other := range []string{s + "s", s + " ", " " + s, s[1:], s[:len(s)-1], strings.ToUpper(s), strings.ToUpper(s[:1]) + s[1:], s + s, s + "_", s + "1", s + "\x00", "_" + s} {
			if Word(other) {
				t.Errorf("%q is a word", other)
			}
		}
	}
	for _, s := range []string{"", "a", "x", "bool", "string", "list", "record", "none", "null", "nil", "if", "and", "or", "not", "\xff", x("true", 1000)} {
		if Word(s) {
			t.Errorf("%q is a word", s)
		}
	}
}

// P7.3: tokens lie one behind the other, with blanks alone between them; from each place between two of them the next one is read.
func TestOneBehindAnother(t *testing.T) {
	for _, text := range lines(t) {
		l, _, _ := All(text)
		behind := 0
		for _, token := range l {
			if token.At < behind || token.Next <= token.At || token.Next > len(text) || strings.Trim(text[behind:token.At], blanks) != "" {
				t.Fatalf("%q: %#v stands behind %d", text, token, behind)
			}
			for at := behind; at <= token.At; at++ {
				checkNext(t, text, at, token, api.OK)
			}
			behind = token.Next
		}
		if strings.Trim(text[behind:], blanks) != "" {
			t.Errorf("%q: nothing is told of %q", text, text[behind:])
		}
	}
}

// P7.3: blanks between tokens change their places alone.
func TestMoreBlanks(t *testing.T) {
	for _, text := range lines(t) {
		l, _, _ := All(text)
		for _, between := range []string{" ", "\t", "\n", "\r", "\r\n", " \t \n \r "} {
			wide, want := between, []api.Token(nil)
			for _, token := range l {
				at := len(wide)
				wide += text[token.At:token.Next] + between
				want = append(want, placed(token, at, at+token.Next-token.At))
			}
			checkAll(t, wide, want, 0, api.OK)
		}
	}
}

// lines answers texts that are tokens as a whole, put together of any ones.
func lines(t *testing.T) []string {
	t.Helper()
	pieces := append(slices.Concat(signs, words), "0", "12", "3p-1", "0p0", "a", "p1", "x_1", `""`, `"a \" \\"`, " ", " ", " ", "\t", "\n\r")
	r := rand.New(rand.NewSource(2))
	texts := []string{"", " ", "1+2*x", "a.b[0] ? -1 : !c", "x1 <= 3p-1"}
	for len(texts) < 2000 {
		var text strings.Builder
		for range 1 + r.Intn(20) {
			text.WriteString(pieces[r.Intn(len(pieces))])
		}
		if _, _, e := All(text.String()); e == api.OK {
			texts = append(texts, text.String())
		}
	}
	return texts
}

// P7.1: the texts that layer 4 gives of what has no parts and no minus are one token each.
func TestTextsOfValues(t *testing.T) {
	r := rand.New(rand.NewSource(3))
	for range 3000 {
		bytes := make([]byte, r.Intn(201))
		for i := range bytes {
			bytes[i] = byte(r.Intn(256) >> r.Intn(3))
		}
		f := math.Abs(math.Float64frombits(r.Uint64()))
		if f != f {
			f = math.Inf(1)
		}
		for _, v := range []api.Value{{Kind: api.VInt, N: r.Int63() >> r.Intn(63)}, {Kind: api.VFloat, F: f}, {Kind: api.VStr, S: string(bytes)}} {
			text, e := value.Text(v)
			if e != api.OK {
				t.Fatal(v, e)
			}
			checkAll(t, text, []api.Token{{Kind: v.Kind, Next: len(text), N: v.N, F: v.F, S: v.S}}, 0, api.OK) // the kinds have the same numbers
		}
	}
}

// Rule 5: what is answered shares no memory with the text.
func TestNewMemory(t *testing.T) {
	for _, s := range []string{"abc", "x", `"abc"`, `"a\"b"`, "<=", "<", "(", "=="} {
		text := string([]byte("  " + s + " "))
		from, size := uintptr(unsafe.Pointer(unsafe.StringData(text))), uintptr(len(text))
		l, _, _ := All(text)
		one, _ := Next(text, 0)
		for _, token := range append(l, one) {
			if at := uintptr(unsafe.Pointer(unsafe.StringData(token.S))); at >= from && at < from+size {
				t.Errorf("%q lies in the text", token.S)
			}
		}
	}
	a, _, _ := All("a b c")
	b, _, _ := All("a b c")
	clear(a)
	if fmt.Sprint(b) != fmt.Sprint([]api.Token{placed(named("a"), 0, 1), placed(named("b"), 2, 3), placed(named("c"), 4, 5)}) {
		t.Errorf("two answers are one: %v", b)
	}
}

// Rule 7: what is answered hangs on the text alone, not on what was asked before.
func TestAgain(t *testing.T) {
	texts := []string{"a", "&", `"`, "12p", "nan", "1p0", "", x("a", 2001)}
	for _, first := range texts {
		for _, second := range texts {
			All(first)
			Next(first, 0)
			checkText(t, second[:min(len(second), 40)])
		}
	}
}

// Rule 1: any bytes at all are answered, from any place on.
func FuzzText(f *testing.F) {
	for _, text := range []string{"x1 <= 3p-1", `a"`, "12p", "&", `"\\\""`, "nan inf", "9223372036854775808"} {
		f.Add(text)
	}
	f.Fuzz(func(t *testing.T, text string) {
		checkText(t, text[:min(len(text), 100)])
	})
}
