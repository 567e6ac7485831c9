package desk

import (
	"strconv"
	"strings"

	"cartulary/api"
)

const (
	comma  = ","
	digits = "0123456789ABCDEF"
	// maxDigits is how many digits the greatest number has.
	maxDigits = 13
)

// opWords are the words of operations, by their kinds.
var opWords = [...]string{
	api.OpCreate: "create", api.OpMkdir: "mkdir", api.OpWrite: "write", api.OpTruncate: "truncate",
	api.OpRead: "read", api.OpStat: "stat", api.OpList: "list", api.OpLink: "link",
	api.OpUnlink: "unlink", api.OpRmdir: "rmdir", api.OpRename: "rename",
}

// number is a key whose value is a number.
func number[T any, N ~int](name string, of func(*T) *N) key[T] {
	return key[T]{
		name: name,
		read: func(x *T, value string) { *of(x) = N(numberOf(value)) },
		tell: func(x *T) string { return sayNumber(int(*of(x))) },
	}
}

// text is a key whose value is a text.
func text[T any](name string, of func(*T) *string) key[T] {
	return key[T]{
		name: name,
		read: func(x *T, value string) { *of(x) = textOf(value) },
		tell: func(x *T) string { return sayText(*of(x)) },
	}
}

// list is a key whose value is a list.
func list[T any](name string, of func(*T) *[]string) key[T] {
	return key[T]{
		name: name,
		read: func(x *T, value string) { *of(x) = listOf(value) },
		tell: func(x *T) string { return sayList(*of(x)) },
	}
}

// operation is a key whose value is an operation's word, and must be said.
func operation[T any](name string, of func(*T) *int) key[T] {
	return key[T]{
		name: name,
		must: true,
		read: func(x *T, value string) { *of(x) = operationOf(value) },
		tell: func(x *T) string { return sayOperation(*of(x)) },
	}
}

func numberOf(value string) int {
	need(len(value) <= maxDigits && value[0] != '0')
	n := 0
	for _, d := range []byte(value) {
		need(d >= '0' && d <= '9')
		n = n*10 + int(d-'0')
	}
	need(n <= api.MaxSeq)
	return n
}

func sayNumber(n int) string {
	need(n >= 0 && n <= api.MaxSeq)
	if n == 0 {
		return ""
	}
	return strconv.Itoa(n)
}

func textOf(value string) string {
	b := strings.Builder{}
	for i := 0; i < len(value); i++ {
		if value[i] != '%' {
			b.WriteByte(value[i])
			continue
		}
		need(i+2 < len(value))
		b.WriteByte(digitOf(value[i+1])<<4 | digitOf(value[i+2]))
		i += 2
	}
	// Each text has one value alone.
	need(sayText(b.String()) == value)
	return b.String()
}

func digitOf(c byte) byte {
	d := strings.IndexByte(digits, c)
	need(d >= 0)
	return byte(d)
}

func sayText(s string) string {
	b := strings.Builder{}
	for _, c := range []byte(s) {
		if isPlain(c) {
			b.WriteByte(c)
			continue
		}
		b.WriteByte('%')
		b.WriteByte(digits[c>>4])
		b.WriteByte(digits[c&15])
	}
	return b.String()
}

// isPlain tells whether a byte stands for itself.
func isPlain(c byte) bool {
	return c >= 'a' && c <= 'z' || c >= 'A' && c <= 'Z' || c >= '0' && c <= '9' || strings.IndexByte("._/-", c) >= 0
}

func listOf(value string) []string {
	var l []string
	for _, s := range strings.Split(value, comma) {
		need(s != "")
		l = append(l, textOf(s))
	}
	return l
}

func sayList(l []string) string {
	said := make([]string, len(l))
	for i, s := range l {
		need(s != "")
		said[i] = sayText(s)
	}
	return strings.Join(said, comma)
}

func operationOf(value string) int {
	for kind, word := range opWords {
		if word == value {
			return kind
		}
	}
	panic(broken{})
}

// sayOperation is the word of a kind; that of no operation is empty.
func sayOperation(kind int) string {
	need(kind >= 0 && kind < len(opWords))
	return opWords[kind]
}
