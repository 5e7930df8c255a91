package parse

import (
	"math"
	"slices"
	"strings"

	"bascule/api"
	"bascule/float"
	"bascule/lex"
	"bascule/none"
	"bascule/value"
)

// mostCounted is where Parts ends its count.
const mostCounted = 500

// Right answers whether it is an expression. Parts are counted ahead of all else, so that what shares its parts, or has itself within itself, costs no more than others.
func Right(x api.Expr) bool {
	return countParts(x, api.MaxParts+1) <= api.MaxParts && isRightWithin(x, api.MaxDepth)
}

// Parts answers how many parts any expression has, up to 500.
func Parts(x api.Expr) int {
	return countParts(x, mostCounted)
}

// Same answers whether a and b are the same, part by part.
func Same(a, b api.Expr) bool {
	return a.Kind == b.Kind && a.S == b.S && value.Same(a.V, b.V) && slices.Equal(a.Names, b.Names) && slices.EqualFunc(a.Kids, b.Kids, Same)
}

// Text answers an expression as a text.
func Text(x api.Expr) (string, api.Errno) {
	if !Right(x) {
		return "", api.ErrForm
	}
	return text(x), api.OK
}

// countParts counts no further than to most, which is 1 at least.
func countParts(x api.Expr, most int) int {
	n := 1
	for _, kid := range x.Kids {
		if n == most {
			break
		}
		n += countParts(kid, most-n)
	}
	return n
}

func isRightWithin(x api.Expr, depth int) bool {
	if depth == 0 || !isRightAlone(x) {
		return false
	}
	for _, kid := range x.Kids {
		if !isRightWithin(kid, depth-1) {
			return false
		}
	}
	return true
}

// isRightAlone leaves aside what the Kids are. Each kind takes away the fields that it may have; what is left is to be zero.
func isRightAlone(x api.Expr) bool {
	kids := 0
	switch x.Kind {
	case api.EConst:
		if !isConstant(x.V) {
			return false
		}
		x.V = api.Value{}
	case api.EVar:
		if !value.Name(x.S) || lex.Word(x.S) {
			return false
		}
		x.S = ""
	case api.EIf:
		kids++
		fallthrough
	case api.EAdd, api.ESub, api.EMul, api.EDiv, api.EMod, api.EEq, api.ELess, api.ELeq, api.EAnd, api.EOr, api.EIndex:
		kids++
		fallthrough
	case api.ENeg, api.ENot, api.ELen, api.EFloat, api.EInt, api.EStr:
		kids++
	case api.EList:
		kids = len(x.Kids)
	case api.ERec:
		if !areFields(x.Names) {
			return false
		}
		kids = len(x.Names)
		x.Names = nil
	case api.EField:
		if !isField(x.S) {
			return false
		}
		kids = 1
		x.S = ""
	default:
		return false
	}
	return len(x.Kids) == kids && x.S == "" && len(x.Names) == 0 && none.Value(x.V)
}

// isConstant takes what the grammar can say without an operator.
func isConstant(v api.Value) bool {
	switch v.Kind {
	case api.VInt:
		return v.N >= 0 && value.Right(v)
	case api.VFloat:
		return isCanonical(v.F) && !math.Signbit(v.F) && value.Right(v)
	case api.VBool, api.VStr:
		return value.Right(v)
	}
	return false
}

// isCanonical asks the bits, as what is no number differs from itself.
func isCanonical(f float64) bool {
	return math.Float64bits(f) == math.Float64bits(float.Canon(f))
}

func areFields(names []string) bool {
	for i, name := range names {
		if !isField(name) || i > 0 && names[i-1] >= name {
			return false
		}
	}
	return true
}

// isField answers whether it is a name that may stand behind a full stop: nan and inf are floats there.
func isField(s string) bool {
	return value.Name(s) && s != "nan" && s != "inf"
}

// text asks for a right expression.
func text(x api.Expr) string {
	kids := kidTexts(x)
	switch x.Kind {
	case api.EConst:
		return constantText(x.V)
	case api.EVar:
		return strings.Clone(x.S)
	case api.ENeg, api.ENot:
		return "(" + operator(x.Kind) + kids[0] + ")"
	case api.EIf:
		return "(" + kids[0] + "?" + kids[1] + ":" + kids[2] + ")"
	case api.EList:
		return "[" + strings.Join(kids, ",") + "]"
	case api.ERec:
		return "{" + strings.Join(kids, ",") + "}"
	case api.EField:
		return kids[0] + "." + x.S
	case api.EIndex:
		return kids[0] + "[" + kids[1] + "]"
	case api.ELen, api.EFloat, api.EInt, api.EStr:
		return operator(x.Kind) + "(" + kids[0] + ")"
	}
	return "(" + kids[0] + operator(x.Kind) + kids[1] + ")"
}

// kidTexts tells each Kid as it stands within what it is a Kid of.
func kidTexts(x api.Expr) []string {
	texts := make([]string, len(x.Kids))
	for i, kid := range x.Kids {
		texts[i] = text(kid)
		switch {
		case x.Kind == api.ERec:
			texts[i] = x.Names[i] + ":" + texts[i]
		case (x.Kind == api.EField || x.Kind == api.EIndex) && i == 0 && kid.Kind == api.EConst:
			texts[i] = "(" + texts[i] + ")"
		}
	}
	return texts
}

// constantText has no error to tell: a constant is a right value.
func constantText(v api.Value) string {
	s, _ := value.Text(v)
	return s
}

// operator answers how a kind of one or two Kids is written.
func operator(kind int) string {
	switch kind {
	case api.ENot:
		return "!"
	case api.EAdd:
		return "+"
	case api.ESub, api.ENeg:
		return "-"
	case api.EMul:
		return "*"
	case api.EDiv:
		return "/"
	case api.EMod:
		return "%"
	case api.EEq:
		return "=="
	case api.ELess:
		return "<"
	case api.ELeq:
		return "<="
	case api.EAnd:
		return "&&"
	case api.EOr:
		return "||"
	case api.ELen:
		return "len"
	case api.EFloat:
		return "float"
	case api.EInt:
		return "int"
	}
	return "str"
}
