package value

import (
	"ramble/api"
	"ramble/num"
)

const hexDigits = "0123456789abcdef"

// Text is a value's text; ? stands for what has none.
func Text(v api.Value) string { return string(putText(nil, v, 1)) }

// putText puts the text of v, which stands that deep, behind b.
func putText(b []byte, v api.Value, deep int) []byte {
	if deep > api.MaxDeep {
		return append(b, '?')
	}
	switch v.Kind {
	case api.VInt:
		return append(b, num.Text(v.N)...)
	case api.VStr:
		return putString(b, v.S)
	case api.VBool:
		return append(b, truth(v.N != 0)...)
	case api.VList:
		return putList(b, v.L, deep+1)
	case api.VMap:
		return putMap(b, v.L, deep+1)
	case api.VVertex:
		return append(b, "v["+num.Text(v.N)+"]"...)
	case api.VEdge:
		return append(b, "e["+num.Text(v.N)+"]"...)
	}
	return append(b, '?')
}

func truth(yes bool) string {
	if yes {
		return "true"
	}
	return "false"
}

func putString(b []byte, s string) []byte {
	b = append(b, '\'')
	for i := range len(s) {
		c := s[i]
		switch {
		case c == '\'' || c == '\\':
			b = append(b, '\\', c)
		case hasNoSign(c):
			b = append(b, '\\', 'x', hexDigits[c>>4], hexDigits[c&15])
		default:
			b = append(b, c)
		}
	}
	return append(b, '\'')
}

// hasNoSign tells whether a byte is told by its number, since it can't be seen.
func hasNoSign(c byte) bool { return c < 32 || c > 126 }

func putList(b []byte, l []api.Value, deep int) []byte {
	b = append(b, '[')
	for i, v := range l {
		if i > 0 {
			b = append(b, ", "...)
		}
		b = putText(b, v, deep)
	}
	return append(b, ']')
}

// putMap tells pairs alone: a last key without a value is left out.
func putMap(b []byte, l []api.Value, deep int) []byte {
	b = append(b, '{')
	for i := 1; i < len(l); i += 2 {
		if i > 1 {
			b = append(b, ", "...)
		}
		b = putText(b, l[i-1], deep)
		b = append(b, ": "...)
		b = putText(b, l[i], deep)
	}
	return append(b, '}')
}
