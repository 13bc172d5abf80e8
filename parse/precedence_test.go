package parse_test

import (
	"strings"
	"testing"

	"sluicegate/api"
	"sluicegate/ast"
)

// mustGroup fails unless the operations of a text are within one another as the
// parentheses of another one say.
func mustGroup(t *testing.T, want, text string) {
	t.Helper()
	if got := group(valueOf(t, "P10.3", text)); got != want {
		t.Errorf("P10.3: %s is %s, not %s", text, got, want)
	}
}

func TestP10_3Precedence(t *testing.T) {
	for text, want := range map[string]string{
		"a + b * c ? d : e ? f : g":        "((a+(b*c))?d:(e?f:g))",
		"a + b - c + d":                    "(((a+b)-c)+d)",
		"a * b / c % d * e":                "((((a*b)/c)%d)*e)",
		"a << b >> c <<< d >>> e":          "((((a<<b)>>c)<<<d)>>>e)",
		"a < b <= c > d >= e":              "((((a<b)<=c)>d)>=e)",
		"a == b != c == d":                 "(((a==b)!=c)==d)",
		"a & b & c":                        "((a&b)&c)",
		"a ^ b ~^ c ^~ d ^ e":              "((((a^b)~^c)~^d)^e)",
		"a | b | c":                        "((a|b)|c)",
		"a && b && c":                      "((a&&b)&&c)",
		"a || b || c":                      "((a||b)||c)",
		"a || b && c | d ^ e & f":          "(a||(b&&(c|(d^(e&f)))))",
		"f & e ^ d | c && b || a":          "(((((f&e)^d)|c)&&b)||a)",
		"a == b < c << d + e * f":          "(a==(b<(c<<(d+(e*f)))))",
		"f * e + d << c < b == a":          "(((((f*e)+d)<<c)<b)==a)",
		"a & b == c":                       "(a&(b==c))",
		"a == b & c":                       "((a==b)&c)",
		"a ? b : c":                        "(a?b:c)",
		"a ? b ? c : d : e":                "(a?(b?c:d):e)",
		"a ? b ? c : d : e ? f : g":        "(a?(b?c:d):(e?f:g))",
		"a ? b : c ? d : e ? f : g":        "(a?b:(c?d:(e?f:g)))",
		"a || b ? c || d : e || f":         "((a||b)?(c||d):(e||f))",
		"( a ? b : c ) ? d : e":            "((a?b:c)?d:e)",
		"- a + b":                          "((-a)+b)",
		"- a * - b":                        "((-a)*(-b))",
		"a - - b":                          "(a-(-b))",
		"a & & b":                          "(a&(&b))",
		"a | ~| | b":                       "(a|(~|(|b)))",
		"! a == b":                         "((!a)==b)",
		"~ a [ 1 ]":                        "(~a[1])",
		"- f ( a ) + { b , c }":            "((-f(a))+{b,c})",
		"- ~ ! & | ^ ~& ~| ~^ ^~ a":        "(-(~(!(&(|(^(~&(~|(~^(~^a))))))))))",
		"- a ^~ & b":                       "((-a)~^(&b))",
		"+ a":                              "a",
		"+ + - + a + + b":                  "((-a)+b)",
		"- ( a + b ) * c":                  "((-(a+b))*c)",
		"( a )":                            "a",
		"( ( ( a ) ) + ( ( b ) ) )":        "(a+b)",
		"a * ( b + c )":                    "(a*(b+c))",
		"( a || b ) * c":                   "((a||b)*c)",
		"a - ( b - c )":                    "(a-(b-c))",
		"a [ b + c * d : e ? f : g ]":      "a[(b+(c*d)):(e?f:g)]",
		"f ( a + b , c ? d : e , - g )":    "f((a+b),(c?d:e),(-g))",
		"{ a + b , c ? d : e }":            "{(a+b),(c?d:e)}",
		"{ a + 1 { b | c , d } }":          "{(a+1){(b|c),d}}",
		"{ a ? b : c { d } }":              "{(a?b:c){d}}",
		"{ { a } { b } }":                  "{{a}{b}}",
		"$signed ( a + b ) + $unsigned(c)": "($signed((a+b))+$unsigned(c))",
		"4'b1 + 'hF * 3":                   "(4'b1+('hF*3))",
	} {
		mustGroup(t, want, text)
	}
}

// rank returns the precedence of an operator of two operands, in the order of
// the chapter.
func rank(sign string) int {
	for i, signs := range strings.Split("||; &&; |; ^ ~^ ^~; &; == !=; < <= > >=; << >> <<< >>>; + -; * / %", "; ") {
		for _, other := range strings.Fields(signs) {
			if other == sign {
				return i
			}
		}
	}
	return -1
}

// allSigns are the operators of two operands.
func allSigns() []string {
	return strings.Fields("|| && | ^ ~^ ^~ & == != < <= > >= << >> <<< >>> + - * / %")
}

// TestP10_3Pairs has all pairs and triples of operators of two operands.
func TestP10_3Pairs(t *testing.T) {
	for _, x := range allSigns() {
		for _, y := range allSigns() {
			inX, inY := inTree(x), inTree(y)
			want := "(a" + inX + "(b" + inY + "c))"
			if rank(x) >= rank(y) {
				want = "((a" + inX + "b)" + inY + "c)"
			}
			mustGroup(t, want, "a "+x+" b "+y+" c")
			mustGroup(t, "("+want+"?d:"+want+")", "a "+x+" b "+y+" c ? d : a "+x+" b "+y+" c")
			mustGroup(t, "((-a)"+inX+"(~b))", "- a "+x+" ~ b")
			for _, z := range []string{"||", "^", "==", "+", "%"} {
				first, second, third := rank(x), rank(y), rank(z)
				lowest := min(first, second, third)
				got := group(valueOf(t, "P10.3", "a "+x+" b "+y+" c "+z+" d"))
				var want string
				switch {
				case third == lowest:
					want = "(" + group(valueOf(t, "P10.3", "a "+x+" b "+y+" c")) + z + "d)"
				case second == lowest:
					want = "((a" + inX + "b)" + inY + "(c" + z + "d))"
				default:
					want = "(a" + inX + group(valueOf(t, "P10.3", "b "+y+" c "+z+" d")) + ")"
				}
				if got != want {
					t.Errorf("P10.3: a %s b %s c %s d is %s, not %s", x, y, z, got, want)
				}
			}
		}
	}
}

// TestP10_3Prefixes has all pairs of operators before an operand, and each of
// them after an operator of two operands.
func TestP10_3Prefixes(t *testing.T) {
	apply := func(sign, text string) string {
		if sign == "+" {
			return text
		}
		return "(" + inTree(sign) + text + ")"
	}
	prefixes := strings.Fields("- ~ ! & | ^ ~& ~| ~^ ^~ +")
	for _, x := range prefixes {
		for _, y := range prefixes {
			mustGroup(t, apply(x, apply(y, "a")), x+" "+y+" a")
			mustGroup(t, apply(x, apply(y, "(a+b)")), x+" "+y+" ( a + b )")
		}
		for _, sign := range allSigns() {
			mustGroup(t, "("+apply(x, "a")+inTree(sign)+apply(x, "b")+")", x+" a "+sign+" "+x+" b")
		}
		mustGroup(t, "("+apply(x, "a")+"?"+apply(x, "b")+":"+apply(x, "c")+")", x+" a ? "+x+" b : "+x+" c")
	}
	for _, sign := range strings.Fields("! ~ ~& ~|") {
		mustRejectText(t, api.ErrForm, "module m ( ) ; assign y = a «"+sign+" b ; endmodule")
	}
}

// TestP10_3Signs has the text of each operator in the tree.
func TestP10_3Signs(t *testing.T) {
	for _, sign := range allSigns() {
		if e := valueOf(t, "P10.3", "a "+sign+" b"); e.Kind != ast.Bin || e.Text != inTree(sign) || len(e.Args) != 2 {
			t.Errorf("P10.3: a %s b is %+v", sign, e)
		}
	}
	for _, sign := range strings.Fields("- ~ ! & | ^ ~& ~| ~^ ^~") {
		if e := valueOf(t, "P10.3", sign+" a"); e.Kind != ast.Un || e.Text != inTree(sign) || len(e.Args) != 1 {
			t.Errorf("P10.3: %s a is %+v", sign, e)
		}
	}
}
