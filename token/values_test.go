package token_test

import (
	"strings"
	"testing"

	"marginalia/api"
	"marginalia/token"
)

// P3.4: Quote and Unquote.
func TestQuote(t *testing.T) {
	for _, c := range []struct{ s, quoted string }{
		{"", `""`},
		{"a", `"a"`},
		{"\n", `"\n"`},
		{`"`, `"\""`},
		{`\`, `"\\"`},
		{`\n`, `"\\n"`},
		{`\\`, `"\\\\"`},
		{"\\\n", `"\\\n"`},
		{"a\n\"b\\c", `"a\n\"b\\c"`},
		{"n", `"n"`},
		{"//", `"//"`},
		{" \t\r", "\" \t\r\""},
		{"\x00\x01\x7f\x80\xff", "\"\x00\x01\x7f\x80\xff\""},
		{"\u00e9\u20ac\U0001f600", "\"\u00e9\u20ac\U0001f600\""},
		{"\u2028\u0085", "\"\u2028\u0085\""},
	} {
		if got, e := token.Quote(c.s); got != c.quoted || e != api.OK {
			t.Errorf("Quote(%q) = %s, %d, not %s", c.s, got, e, c.quoted)
		}
		if got, e := token.Unquote(text(c.quoted)); got != c.s || e != api.OK {
			t.Errorf("Unquote(%s) = %q, %d, not %q", c.quoted, got, e, c.s)
		}
	}
}

// P3.4: Quote's limit is that of what it returns.
func TestQuoteLimit(t *testing.T) {
	most := api.MaxText - 2
	for _, unit := range []struct{ s, quoted string }{{"a", "a"}, {"\xff", "\xff"}, {"\n", `\n`}, {`"`, `\"`}, {`\`, `\\`}} {
		count := most / len(unit.quoted)
		full := strings.Repeat(unit.s, count)
		want := `"` + strings.Repeat(unit.quoted, count) + `"`
		if got, e := token.Quote(full); got != want || e != api.OK || len(got) != api.MaxText {
			t.Errorf("Quote of %d times %q: %d bytes, %d", count, unit.s, len(got), e)
		}
		if got, e := token.Unquote(text(want)); got != full || e != api.OK {
			t.Errorf("Unquote of %d times %q: %d bytes, %d", count, unit.quoted, len(got), e)
		}
		for _, s := range []string{full + "a", "a" + full, full + "\n", full + full} {
			if got, e := token.Quote(s); got != "" || e != api.ErrLimit {
				t.Errorf("Quote of %d bytes: %d bytes, %d", len(s), len(got), e)
			}
		}
		tooLong := `"` + strings.Repeat(unit.quoted, count) + `a"`
		if got, e := token.Unquote(text(tooLong)); got != "" || e != api.ErrForm {
			t.Errorf("Unquote of one byte too many: %d bytes, %d", len(got), e)
		}
	}
	// one byte less, and then a byte that is written by two
	if got, e := token.Quote(strings.Repeat("a", most-1) + "\n"); got != "" || e != api.ErrLimit {
		t.Errorf("Quote of a line feed as the last byte: %d bytes, %d", len(got), e)
	}
}

// P3.4: what is no TkText has no string.
func TestUnquoteErrors(t *testing.T) {
	for _, k := range []api.Token{
		{}, text(""), text(`"`), text(`"a`), text(`a"`), text("a"), text(`"""`), text(`"a"b`), text(` "a"`), text(`"a" `), text(`""""`), text(`"\"`), text(`"\x"`), text(`"\t"`), text(`"\`), text("\"\n\""), text("\"a\\\n\""),
		name(`"a"`), bad(`"a"`), bad(`"a`), word(`""`), number("1"), {Text: `"a"`}, {Kind: 9, Text: `"a"`}, {Kind: -6, Text: `"a"`}, name("a"), sign("("), blank(" "), remark("//"),
	} {
		if got, e := token.Unquote(k); got != "" || e != api.ErrForm {
			t.Errorf("Unquote(%s) = %q, %d", show(k), got, e)
		}
	}
}

// P3.4, P3.9: Unquote of all short strings with and without marks around them: what is no TkText is an error, and what is one comes back.
func TestUnquoteAgainstModel(t *testing.T) {
	pairs := strings.NewReplacer(`\n`, "\n", `\"`, `"`, `\\`, `\`)
	all(strings.Split("\"\\n\na\xff ", ""), 4, func(middle string) {
		for _, s := range []string{middle, `"` + middle + `"`} {
			want, wantError := "", api.ErrForm
			if modelIsText(s) {
				want, wantError = pairs.Replace(s[1:len(s)-1]), api.OK
			}
			got, e := token.Unquote(text(s))
			if got != want || e != wantError {
				t.Errorf("Unquote(%q) = %q, %d", s, got, e)
			}
			if e == api.OK {
				if back, e := token.Quote(got); back != s || e != api.OK {
					t.Errorf("Quote(%q) = %q, %d", got, back, e)
				}
			}
		}
	})
}

// P3.9: Unquote of Quote is the string, and Quote gives a TkText.
func TestUnquoteOfQuote(t *testing.T) {
	hold := func(s string) {
		quoted, e := token.Quote(s)
		if e != api.OK || !token.IsToken(text(quoted)) || strings.Contains(quoted, "\n") {
			t.Errorf("Quote(%q) = %q, %d", s, quoted, e)
		}
		if back, e := token.Unquote(text(quoted)); back != s || e != api.OK {
			t.Errorf("Unquote(%q) = %q, %d", quoted, back, e)
		}
	}
	for b := range 256 {
		hold(string([]byte{byte(b)}))
		hold("\\" + string([]byte{byte(b)}) + "n")
	}
	all(strings.Split("\"\\n\na\xff/", ""), 5, hold)
	some(partsOfAllSorts, 1000, hold)
}

// P3.4: Number.
func TestNumber(t *testing.T) {
	for _, c := range []struct {
		s    string
		want int64
		fits bool
	}{
		{"0", 0, true}, {"1", 1, true}, {"9", 9, true}, {"10", 10, true}, {"1234567890", 1234567890, true},
		{"00", 0, true}, {"007", 7, true}, {"08", 8, true}, {"010", 10, true}, {strings.Repeat("0", api.MaxText), 0, true}, {strings.Repeat("0", api.MaxText-2) + "42", 42, true},
		{"2147483648", 1 << 31, true}, {"4294967296", 1 << 32, true},
		{"9223372036854775806", 1<<63 - 2, true}, {"9223372036854775807", 1<<63 - 1, true}, {"0009223372036854775807", 1<<63 - 1, true}, {strings.Repeat("0", api.MaxText-19) + "9223372036854775807", 1<<63 - 1, true},
		{"9223372036854775808", 0, false}, {"0009223372036854775808", 0, false}, {"9223372036854775809", 0, false}, {"9223372036854775810", 0, false}, {"9300000000000000000", 0, false}, {"10000000000000000000", 0, false},
		{"18446744073709551615", 0, false}, {"18446744073709551616", 0, false}, {"18446744073709551617", 0, false}, {"20000000000000000000", 0, false}, {"36893488147419103232", 0, false}, {"92233720368547758070", 0, false}, {"27670116110564327424", 0, false},
		{strings.Repeat("9", api.MaxText), 0, false}, {"1" + strings.Repeat("0", api.MaxText-1), 0, false},
	} {
		if got, fits, e := token.Number(number(c.s)); got != c.want || fits != c.fits || e != api.OK {
			t.Errorf("Number(%.30s) = %d, %t, %d", c.s, got, fits, e)
		}
	}
	for _, k := range []api.Token{
		{}, number(""), number("-1"), number("+1"), number("a"), number("1a"), number("1 "), number(" 1"), number("1_0"), number("0x1"), number("1.0"), number("1e3"), number("\u0663"), number("1\n"), number(strings.Repeat("1", api.MaxText+1)), number(strings.Repeat("0", api.MaxText+1)),
		name("1"), text("1"), bad("1"), sign("1"), {Text: "1"}, {Kind: 9, Text: "1"}, {Kind: -5, Text: "1"}, name("a"), text(`"1"`), word("in"), sign("-"), blank(" "), remark("//1"),
	} {
		if got, fits, e := token.Number(k); got != 0 || fits || e != api.ErrForm {
			t.Errorf("Number(%s) = %d, %t, %d", show(k), got, fits, e)
		}
	}
}
