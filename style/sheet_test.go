package style

import (
	"testing"

	"marginalia/api"
)

// P9.1, rule 4: neighbours that would be other tokens without a blank have one, where nothing else would be between them; in a tree there are none such.
func TestApart(t *testing.T) {
	sign := func(in int, text string) thing {
		return thing{token: api.Token{Kind: api.TkSign, Text: text}, in: in}
	}
	bad := thing{token: api.Token{Kind: api.TkBad, Text: ">"}}
	for _, c := range []struct {
		a, b thing
		want string
	}{
		{sign(api.NdUnary, "-"), bad, " "},
		{sign(api.NdPattern, "-"), bad, " "},
		{sign(api.NdUnary, "!"), bad, ""},
		{sign(api.NdUnary, "-"), sign(api.NdUnary, "-"), ""},
		{sign(api.NdUnary, "-"), sign(api.NdDef, "->"), ""},
		{sign(api.NdUnary, "!"), sign(api.NdDef, "=="), ""},
		{sign(api.NdError, "("), bad, ""},
		{bad, sign(api.NdError, ")"), ""},
	} {
		if got := besides(c.a, c.b); got != c.want {
			t.Errorf("between %q and %q is %q, not %q", c.a.token.Text, c.b.token.Text, got, c.want)
		}
	}
}
