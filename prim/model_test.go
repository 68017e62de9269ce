package prim_test

import (
	"math/big"
	"math/rand"
	"slices"
	"strconv"
	"strings"
	"testing"

	"quire/api"
	"quire/prim"
)

// The model has values of its own: numbers without an end, and all else as parts.
type part struct {
	kind  byte     // i s b l q x, and c for a call
	n     *big.Int // of a number, and a box
	s     []string // the characters of a text, or of a name
	b     bool
	parts []part // of a list, or a quotation, in which a value is a push of it
}

func modelOf(v api.Value) part {
	switch x := v.(type) {
	case api.Int:
		return part{kind: 'i', n: big.NewInt(x.N)}
	case api.Str:
		return part{kind: 's', s: strings.Split(x.S, "")}
	case api.Bool:
		return part{kind: 'b', b: x.B}
	case api.Box:
		return part{kind: 'x', n: big.NewInt(int64(x.N))}
	case api.List:
		whole := part{kind: 'l'}
		for _, v := range x.Items {
			whole.parts = append(whole.parts, modelOf(v))
		}
		return whole
	}
	whole := part{kind: 'q'}
	for _, item := range v.(api.Quot).Items {
		if p, ok := item.(api.Push); ok {
			whole.parts = append(whole.parts, modelOf(p.V))
		} else {
			whole.parts = append(whole.parts, part{kind: 'c', s: strings.Split(item.(api.Call).Name, "")})
		}
	}
	return whole
}

// exact tells all of a part.
func (p part) exact() string {
	told := []string{string(p.kind), strconv.Quote(strings.Join(p.s, "")), strconv.FormatBool(p.b)}
	if p.n != nil {
		told = append(told, p.n.String())
	}
	for _, inner := range p.parts {
		told = append(told, "("+inner.exact()+")")
	}
	return strings.Join(told, "")
}

// text tells a part as a source has it.
func (p part) text() string {
	switch p.kind {
	case 'i':
		return p.n.String()
	case 's':
		return `"` + strings.NewReplacer("\n", `\n`, `"`, `\"`, `\`, `\\`).Replace(strings.Join(p.s, "")) + `"`
	case 'b':
		return map[bool]string{true: "t", false: "f"}[p.b]
	case 'x':
		return "box"
	case 'c':
		return strings.Join(p.s, "")
	}
	words := []string{map[byte]string{'l': "{", 'q': "["}[p.kind]}
	for _, inner := range p.parts {
		words = append(words, inner.text())
	}
	return strings.Join(append(words, map[byte]string{'l': "}", 'q': "]"}[p.kind]), " ")
}

func (p part) size() int {
	n := 1
	for _, inner := range p.parts {
		n += inner.size()
	}
	return n
}

func (p part) depth() int {
	if p.kind != 'l' && p.kind != 'q' {
		return 0
	}
	n := 0
	for _, inner := range p.parts {
		n = max(n, inner.depth())
	}
	return n + 1
}

func (p part) tooLarge() bool {
	return p.size() > api.MaxSize || p.depth() > api.MaxNest || p.kind == 's' && len(strings.Join(p.s, "")) > api.MaxStr
}

func numOf(n *big.Int) part { return part{kind: 'i', n: n} }
func flagOf(b bool) part    { return part{kind: 'b', b: b} }
func textOf(s string) part  { return part{kind: 's', s: strings.Split(s, "")} }

// bounded answers a number, if it is one that a value may have.
func bounded(n *big.Int) ([]part, api.Errno) {
	if n.Cmp(big.NewInt(api.MinInt)) < 0 || n.Cmp(big.NewInt(api.MaxInt)) > 0 {
		return nil, api.ErrOver
	}
	return []part{numOf(n)}, api.OK
}

// accepts tells the kinds that a primitive takes, the lowest first.
func accepts(name string) []string {
	switch name {
	case "dup", "drop", "int?", "str?", "bool?", "list?", "quot?", "box?", "wrap", ">str":
		return []string{"isblqx"}
	case "swap", "over", "nip", "tuck", "=", "pair":
		return []string{"isblqx", "isblqx"}
	case "rot":
		return []string{"isblqx", "isblqx", "isblqx"}
	case "neg", "abs":
		return []string{"i"}
	case "not":
		return []string{"b"}
	case "and", "or":
		return []string{"b", "b"}
	case "length":
		return []string{"slq"}
	case "append":
		return []string{"slq", "slq"}
	case "nth":
		return []string{"i", "sl"}
	case "slice":
		return []string{"i", "i", "sl"}
	case "unpair":
		return []string{"l"}
	case "reverse":
		return []string{"sl"}
	case "curry":
		return []string{"isblqx", "q"}
	case "compose":
		return []string{"q", "q"}
	case ">int":
		return []string{"s"}
	}
	return []string{"i", "i"}
}

// model answers what Do has to answer for sound values.
func model(name string, stack []part) ([]part, api.Errno) {
	takes := accepts(name)
	below := len(stack) - len(takes)
	if below < 0 {
		return nil, api.ErrUnder
	}
	args := stack[below:]
	for i, p := range args {
		if !strings.Contains(takes[i], string(p.kind)) {
			return nil, api.ErrKind
		}
	}
	left, e := modelWord(name, args)
	if e != api.OK {
		return nil, e
	}
	if slices.ContainsFunc(left, part.tooLarge) {
		return nil, api.ErrLarge
	}
	return slices.Concat(stack[:below], left), api.OK
}

func modelWord(name string, a []part) ([]part, api.Errno) {
	top := a[len(a)-1]
	switch name {
	case "dup":
		return []part{top, top}, api.OK
	case "drop":
		return nil, api.OK
	case "swap":
		return []part{a[1], a[0]}, api.OK
	case "over":
		return []part{a[0], a[1], a[0]}, api.OK
	case "rot":
		return []part{a[1], a[2], a[0]}, api.OK
	case "nip":
		return a[1:], api.OK
	case "tuck":
		return []part{a[1], a[0], a[1]}, api.OK
	case "+", "-", "*", "/", "mod", "neg", "abs", "min", "max", "<", ">":
		return modelNumbers(name, a[0].n, top.n)
	case "=":
		return []part{flagOf(a[0].exact() == a[1].exact())}, api.OK
	case "and":
		return []part{flagOf(a[0].b && a[1].b)}, api.OK
	case "or":
		return []part{flagOf(a[0].b || a[1].b)}, api.OK
	case "not":
		return []part{flagOf(!top.b)}, api.OK
	case "int?", "str?", "bool?", "list?", "quot?":
		return []part{flagOf(top.kind == name[0])}, api.OK
	case "box?":
		return []part{flagOf(top.kind == 'x')}, api.OK
	}
	return modelRows(name, a, top)
}

func modelNumbers(name string, n, m *big.Int) ([]part, api.Errno) {
	var to big.Int
	switch name {
	case "+":
		return bounded(to.Add(n, m))
	case "-":
		return bounded(to.Sub(n, m))
	case "*":
		return bounded(to.Mul(n, m))
	case "/", "mod":
		if m.Sign() == 0 {
			return nil, api.ErrZero
		}
		if name == "/" {
			return bounded(to.Quo(n, m))
		}
		return bounded(to.Rem(n, m))
	case "neg":
		return bounded(to.Neg(n))
	case "abs":
		return bounded(to.Abs(n))
	case "<":
		return []part{flagOf(n.Cmp(m) < 0)}, api.OK
	case ">":
		return []part{flagOf(n.Cmp(m) > 0)}, api.OK
	}
	if (n.Cmp(m) < 0) == (name == "min") {
		return bounded(n)
	}
	return bounded(m)
}

func modelRows(name string, a []part, top part) ([]part, api.Errno) {
	length := len(top.s) + len(top.parts)
	switch name {
	case "length":
		return []part{numOf(big.NewInt(int64(length)))}, api.OK
	case "append", "compose":
		if a[0].kind != top.kind {
			return nil, api.ErrKind
		}
		return []part{{kind: top.kind, s: slices.Concat(a[0].s, top.s), parts: slices.Concat(a[0].parts, top.parts)}}, api.OK
	case "nth":
		for i := range length {
			if a[0].n.Cmp(big.NewInt(int64(i))) != 0 {
				continue
			}
			if top.kind == 's' {
				return []part{{kind: 's', s: top.s[i : i+1]}}, api.OK
			}
			return []part{top.parts[i]}, api.OK
		}
		return nil, api.ErrRange
	case "slice":
		return modelSlice(a[0].n, a[1].n, length, top)
	case "wrap", "pair":
		return []part{{kind: 'l', parts: a}}, api.OK
	case "unpair":
		if length != 2 {
			return nil, api.ErrRange
		}
		return top.parts, api.OK
	case "reverse":
		other := part{kind: top.kind}
		for i := range length {
			if top.kind == 's' {
				other.s = append(other.s, top.s[length-1-i])
			} else {
				other.parts = append(other.parts, top.parts[length-1-i])
			}
		}
		return []part{other}, api.OK
	case "curry":
		return []part{{kind: 'q', parts: slices.Concat(a[:1], top.parts)}}, api.OK
	case ">str":
		return []part{textOf(top.text())}, api.OK
	}
	return modelToNumber(strings.Join(top.s, ""))
}

func modelSlice(n, m *big.Int, length int, top part) ([]part, api.Errno) {
	if n.Sign() < 0 || n.Cmp(m) > 0 || m.Cmp(big.NewInt(int64(length))) > 0 {
		return nil, api.ErrRange
	}
	from, to := n.Int64(), m.Int64()
	if top.kind == 's' {
		return []part{{kind: 's', s: top.s[from:to]}}, api.OK
	}
	return []part{{kind: 'l', parts: top.parts[from:to]}}, api.OK
}

func modelToNumber(s string) ([]part, api.Errno) {
	digits, below := strings.CutPrefix(s, "-")
	if !below {
		digits, below = strings.CutPrefix(s, "−")
	}
	for _, script := range []string{"0123456789", "٠١٢٣٤٥٦٧٨٩", "０１２３４５６７８９"} {
		if digits == "" || strings.Trim(digits, script) != "" {
			continue
		}
		plain := strings.Map(func(c rune) rune { return '0' + rune(slices.Index([]rune(script), c)) }, digits)
		n, _ := new(big.Int).SetString(plain, 10)
		if below {
			n.Neg(n)
		}
		left, e := bounded(n)
		if e != api.OK {
			return nil, api.ErrLarge
		}
		return left, api.OK
	}
	return nil, api.ErrText
}

type maker struct{ *rand.Rand }

func (m maker) number() int64 {
	switch m.Intn(4) {
	case 0:
		return int64(m.Intn(9) - 3)
	case 1:
		return []int64{0, 1, -1, api.MaxInt, api.MinInt, api.MaxInt - 1, api.MinInt + 1, 1 << 30, -1 << 30, 1 << 32}[m.Intn(10)]
	}
	return m.Int63()>>m.Intn(63)&api.MaxInt - m.Int63()>>m.Intn(63)&api.MaxInt
}

// text makes texts of a few characters, numbers' words among them, and some that are long.
func (m maker) text() string {
	if m.Intn(3) == 0 {
		sign := []string{"", "-", "−"}[m.Intn(3)]
		script := [][]string{strings.Split("0123456789", ""), strings.Split("٠١٢٣٤٥٦٧٨٩", ""), strings.Split("０１２３４５６７８９", "")}[m.Intn(3)]
		for range m.Intn(21) {
			sign += script[m.Intn(10)]
		}
		return sign
	}
	var b strings.Builder
	for range m.Intn(7) {
		b.WriteString([]string{"a", " ", "\n", `"`, `\`, "語", "é", "😀", "\x00", "\ufffd", "1"}[m.Intn(11)])
	}
	if m.Intn(8) == 0 {
		return strings.Repeat(b.String(), (api.MaxStr/(1+m.Intn(2))-m.Intn(3))/max(1, b.Len()))
	}
	return b.String()
}

func (m maker) value(kind byte, deep int) api.Value {
	switch kind {
	case 'i':
		return num(m.number())
	case 's':
		return str(m.text())
	case 'b':
		return flag(m.Intn(2) == 0)
	case 'x':
		return box(1 + m.Intn(3))
	}
	var inner []api.Value
	if deep > 0 {
		for range m.Intn(4) {
			inner = append(inner, m.value("isblqx"[m.Intn(6)], deep-1))
		}
	}
	// Some are near to the limits of size and depth.
	switch m.Intn(10) {
	case 0:
		inner = append(inner, alike(api.MaxSize/(1+m.Intn(2))-m.Intn(6), num(1))...)
	case 1:
		inner = append(inner, nested(api.MaxNest-m.Intn(3), num(1)))
	}
	if kind == 'l' {
		return api.List{Items: inner}
	}
	var code []api.Item
	for _, v := range inner {
		code = append(code, push(v))
		if m.Intn(3) == 0 {
			code = append(code, call([]string{"dup", "+", "語", "box"}[m.Intn(4)]))
		}
	}
	return api.Quot{Items: code}
}

// sound makes a value that is not too large.
func (m maker) sound(kind byte) api.Value {
	for {
		if v := m.value(kind, m.Intn(4)); !modelOf(v).tooLarge() {
			return v
		}
	}
}

// args makes values for a primitive: mostly as many as it takes or more, and mostly of its kinds.
func (m maker) args(name string) []api.Value {
	var args []api.Value
	for range m.Intn(3) {
		args = append(args, m.sound("isblqx"[m.Intn(6)]))
	}
	for _, of := range accepts(name) {
		if m.Intn(12) == 0 {
			of = "isblqx"
		}
		args = append(args, m.sound(of[m.Intn(len(of))]))
	}
	if m.Intn(12) == 0 {
		args = args[m.Intn(len(args)):]
	}
	return args
}

func toldModel(stack []part) string {
	var told []string
	for _, p := range stack {
		told = append(told, p.exact())
	}
	return strings.Join(told, " ")
}

func modelAll(list []api.Value) (stack []part) {
	for _, v := range list {
		stack = append(stack, modelOf(v))
	}
	return stack
}

func TestByChance(t *testing.T) {
	m := maker{rand.New(rand.NewSource(21))}
	met := map[api.Errno]int{}
	for _, r := range table() {
		for range 500 {
			args := m.args(r.name)
			want, e := model(r.name, modelAll(args))
			got, f := prim.Do(r.name, args)
			if f != e || toldModel(modelAll(got)) != toldModel(want) {
				t.Fatalf("Do(%q, %s): %s, %d, want %s, %d", r.name, short(tellAll(args)), short(tellAll(got)), f, short(toldModel(want)), e)
			}
			met[e]++
		}
	}
	for _, e := range []api.Errno{api.OK, api.ErrUnder, api.ErrKind, api.ErrRange, api.ErrText, api.ErrLarge, api.ErrOver, api.ErrZero} {
		if met[e] < 30 {
			t.Errorf("error %d was met %d times: %v", e, met[e], met)
		}
	}
}

// A row of primitives, each on what the one before left.
func TestRowsByChance(t *testing.T) {
	m := maker{rand.New(rand.NewSource(22))}
	words := table()
	done := 0
	for range 100 {
		var stack []api.Value
		for range 6 {
			stack = append(stack, m.sound("isblqx"[m.Intn(6)]))
		}
		for range 60 {
			name := words[m.Intn(len(words))].name
			want, e := model(name, modelAll(stack))
			got, f := prim.Do(name, stack)
			if f != e || toldModel(modelAll(got)) != toldModel(want) {
				t.Fatalf("Do(%q, %s): %s, %d, want %s, %d", name, short(tellAll(stack)), short(tellAll(got)), f, short(toldModel(want)), e)
			}
			if e == api.OK {
				stack = got
				done++
			}
			if len(stack) > 12 {
				stack = stack[6:]
			}
		}
	}
	if done < 1500 {
		t.Errorf("%d primitives went well", done)
	}
}
