package bench_test

import (
	"strconv"
	"strings"

	"motley/bench"
)

// writer makes scripts that look like chance. It asks a workspace of its own what there is to be edited.
type writer struct {
	*dice
	bench *bench.Bench
	lines []string
}

// script has so many turns, each of one command or more.
func script(seed, turns int) []string {
	w := writer{dice: newDice(seed), bench: bench.New()}
	w.newModel()
	w.newMain()
	w.do("set s A", "set t B", "keep v")
	turn := []func(){
		w.document, w.newModel, w.newMain, w.edit, w.edit, w.version, w.settings, w.choice, w.choice, w.mistake,
		w.askModel, w.askModel, w.askPrograms, w.askPrograms, w.askPrograms, w.askVersion,
	}
	for range turns {
		pick(w.dice, turn...)()
	}
	return w.lines
}

func (w *writer) do(lines ...string) {
	for _, line := range lines {
		w.bench.Do(line)
	}
	w.lines = append(w.lines, lines...)
}

// rarely is one of these, if it is no other one.
func (w *writer) rarely(other []string, wrong ...string) string {
	if w.roll(25) == 0 {
		return pick(w.dice, wrong...)
	}
	return pick(w.dice, other...)
}

func (w *writer) feature() string { return w.rarely([]string{"A", "B", "C"}, "D", "x", "a") }

func (w *writer) set() string {
	return w.rarely([]string{"all", "all", "valid", "s", "t"}, "u", "nothing", "A", "-")
}

func (w *writer) configuration() string {
	if w.roll(25) == 0 {
		return pick(w.dice, "A,A", "A,x", "x,A,A", ",", "A,,B", "-,A", "B,C,B")
	}
	return strings.TrimPrefix("-"+strings.Join(append([]string{""}, some(w.dice, 3, "A", "B", "C")...), ","), "-,")
}

func (w *writer) number() string {
	return w.rarely([]string{"1", "2", "3"}, "0", "-1", "4", "9223372036854775807", "01", "x")
}

func (w *writer) inputs() string {
	s := ""
	for range w.roll(4) {
		s += " " + pick(w.dice, "0", "1", "2", "-1", "7")
	}
	if w.roll(20) == 0 {
		s += " " + w.number()
	}
	return s
}

func (w *writer) formula() string {
	form := w.rarely([]string{"X", "!X", "X & Y", "X | Y", "X => Y", "X ^ Y", "X ? Y : Z", "!(X & Y)", "(X)  <=>Y", "X & !Y & Z"}, "0", "1", "X &", "&", "X Y")
	return strings.NewReplacer("X", w.feature(), "Y", w.feature(), "Z", w.feature()).Replace(form)
}

func (w *writer) document() {
	name := w.rarely([]string{"lib", "a.b", "notes", "edit"}, "main", "model", "x$")
	switch w.roll(6) {
	case 0:
		w.do("drop " + name)
	case 1:
		w.do("show "+name, "docs")
	default:
		w.do("put " + name + pick(w.dice, "", " ", "  ") + pick(w.dice, "# x", "", "fn f() { }", "var g : int = 1;", "#define M 2"))
	}
}

func (w *writer) newModel() {
	lines := []string{"root A"}
	for _, name := range pick(w.dice, []string{"B", "C"}, []string{"B", "C"}, []string{"B", "C"}, []string{"C", "B", "D"}, []string{"C"}) {
		lines = append(lines, pick(w.dice, "optional A ", "optional A ", "optional A ", "mandatory A ", "optional "+w.rarely([]string{"A"}, "B", "C")+" ")+name)
	}
	if w.roll(4) == 0 {
		lines = []string{"root A", "member A B", "member A C", pick(w.dice, "group A 1 1 B C", "group A 0 1 B C", "group A 1 2 C B")}
	}
	if w.roll(2) == 0 {
		lines = append(lines, "attribute p", "value p A 3", "value p C -2", w.rarely([]string{"limit p <= 5", "limit p >= 1", "value p A 3", "attribute q"}, "limit p = 0", "limit p < 1"))
	}
	for range w.roll(3) {
		lines = append(lines, "require "+w.formula())
	}
	w.do("drop model")
	for _, line := range lines {
		w.do("put model " + line)
	}
	w.do("model", "rules")
}

func (w *writer) newMain() {
	w.do("drop main", "drop lib", "put lib "+w.rarely([]string{"fn f() { print 5; }", "fn f() { f(); }", "#define f g"}, "fn f() : int { }", "$"), `put main #include "lib"`, "put main fn main() {")
	for range w.roll(5) {
		line := func() string {
			return w.rarely([]string{"print 1;", "print 2 / read;", "assert read > 0;", "print x;", "var x : int = read;", "f();", "while (read > 0) { print 4; }", "return;"}, "while (true) { }", "{", "M(1", "x = true;", "#error")
		}
		start := w.rarely([]string{"#ifdef X", "#ifndef X", "#if X && !Y", "#if X + Y == 1", "#if !X"}, "#if X ||", "#if X Y", "#iff X")
		w.do("put main "+strings.NewReplacer("X", w.feature(), "Y", w.feature()).Replace(start), "put main "+line())
		if w.roll(2) == 0 {
			w.do("put main #else", "put main "+line())
		}
		w.do("put main #endif", "put main "+pick(w.dice, "print 3;", "", "print A;", "// x"))
	}
	w.do("put main }")
}

// edit changes a line of a product, or a few, and lifts it.
func (w *writer) edit() {
	c := w.configuration()
	product := strings.Split(strings.TrimSuffix(w.bench.Do("derive "+c), "\n"), "\n")
	k := w.roll(len(product))
	switch w.roll(4) {
	case 0:
		product = append(product[:k:k], product[k+1:]...)
	case 1, 2:
		product = append(product[:k:k], append([]string{pick(w.dice, "print 9;", "", "  print -1 ; // x", "A", "var y : bool;")}, product[k:]...)...)
	default:
		product[k] = pick(w.dice, "print 8;", "}", "x", "$")
	}
	w.do("drop edit")
	for _, line := range product {
		w.do("put edit " + line)
	}
	w.do("lift "+w.set()+" "+c, "derive "+c, "show main")
	if w.roll(3) == 0 {
		w.do("trim " + w.set())
	}
}

func (w *writer) version() {
	w.do(w.rarely([]string{"keep v", "keep w", "versions"}, "keep model", "keep v!"))
}

func (w *writer) askVersion() {
	v := w.rarely([]string{"v", "w"}, "model", "z", "v!")
	w.do(pick(w.dice, "change "+v, "differ "+v+" "+w.set()+w.inputs(), "differ "+v+" "+w.set()))
}

func (w *writer) settings() {
	w.do(pick(w.dice, "fuel "+strconv.Itoa(w.roll(30)), "fuel 1000", "fuel "+w.number(), "set s "+w.formula(), "set t "+w.formula(), w.rarely([]string{"set u " + w.formula()}, "set A A", "set all A")))
}

func (w *writer) choice() {
	w.do(pick(w.dice, "+ ", "- ")+w.feature(), "session")
	if w.roll(2) == 0 {
		w.do("undo", "undo")
	}
}

func (w *writer) mistake() {
	w.do(pick(w.dice, "", "# x", "what", "put", "put a/b x", "set s", "fuel", "fuel x", "fuel -1", "count", "model x", "lift s", "run", "undo 1", "drop nothing", "show nothing", "complete x", "+", "docs\tx"))
}

func (w *writer) askModel() {
	w.do(pick(w.dice, "model", "rules", "count "+w.set(), "list "+w.set(), "least "+w.set(), "why "+w.set(), "session", "complete "+w.rarely([]string{"p"}, "q", "A"), "sample "+w.number(), "bound "+w.number()))
}

func (w *writer) askPrograms() {
	w.do(pick(w.dice, "derive "+w.configuration(), "diags "+w.set(), "diags all", "good "+w.set(), "run "+w.configuration()+w.inputs(), "runs "+w.set()+w.inputs(), "runs all"+w.inputs(), "causes "+w.set()+w.inputs(), "causes all"))
}
