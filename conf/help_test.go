package conf_test

import (
	"errors"
	"fmt"
	"slices"
	"strings"
	"testing"

	"belvedere/api"
	"belvedere/conf"
)

// allOptions and noPeriod are what holds of options and periods that are not there.
const (
	allOptions = 63
	noPeriod   = -1
)

// longest is of as many bytes as a name may have.
const longest = "abcdefghijklmnopqrstuvwxyz_01-.Z"

// kinds are all that there are.
var kinds = []string{"timeperiod", "contact", "contactgroup", "hostgroup", "host", "service", "dependency", "escalation"}

// common are the fields that all objects have: each one's name, and what it says.
const common = " id:id check_period:period notify_period:period contacts:contacts contact_groups:contactgroups max:attempts interval:some retry:some timeout:seconds first_delay:seconds renotify:seconds options:options flap_low:percent flap_high:percent active:flag notify:flag flap:flag"

// sortsOf are a kind's fields, so.
func sortsOf(kind string) map[string]string {
	all := map[string]string{
		"timeperiod":   "id:id exclude:periods entry_1:entry entry_2:entry entry_3:entry entry_4:entry entry_5:entry entry_6:entry entry_7:entry entry_8:entry entry_9:entry",
		"contact":      "id:id period:period options:options enabled:flag groups:contactgroups",
		"contactgroup": "id:id members:contacts groups:contactgroups",
		"hostgroup":    "id:id members:hosts groups:hostgroups",
		"host":         "parents:hosts groups:hostgroups" + common,
		"service":      "hosts:hosts host_groups:hostgroups" + common,
		"dependency":   "on:object of:objects execution:states notification:states",
		"escalation":   "of:objects first:first last:last contacts:contacts contact_groups:contactgroups renotify:seconds",
	}
	sorts := map[string]string{}
	for _, f := range strings.Fields(all[kind]) {
		name, sort, _ := strings.Cut(f, ":")
		sorts[name] = sort
	}
	return sorts
}

// namesOf are the names of a kind's fields, ordered.
func namesOf(kind string) []string {
	var names []string
	for name := range sortsOf(kind) {
		names = append(names, name)
	}
	slices.Sort(names)
	return names
}

// mark is what the place ends with at which a text is wrong.
const mark = "!"

// lay is a text of blocks, each a kind and fields with | between; the line of what is marked, 0 if nothing is.
func lay(blocks ...string) (string, int) {
	var lines []string
	at := 0
	for _, b := range blocks {
		for i, part := range append(strings.Split(b, "|"), "}") {
			part, marked := strings.CutSuffix(part, mark)
			switch {
			case i == 0:
				part = "define " + part + " {"
			case part != "}":
				part = "  " + part
			}
			lines = append(lines, part)
			if marked {
				at = len(lines)
			}
		}
	}
	return strings.Join(append(lines, ""), "\n"), at
}

// ground is one of each that can be named: a, b, c are contacts and their groups, timeperiods, hosts and theirs, and a/s a service.
var ground = []string{
	"timeperiod|id a", "timeperiod|id b", "timeperiod|id c",
	"contact|id a", "contact|id b", "contact|id c",
	"contactgroup|id a", "contactgroup|id b", "contactgroup|id c",
	"host|id a", "host|id b", "host|id c",
	"hostgroup|id a", "hostgroup|id b", "hostgroup|id c",
	"service|id s|hosts a",
}

// withGround are blocks with the ground ahead of them.
func withGround(blocks ...string) []string { return slices.Concat(ground, blocks) }

// least is a block of a kind with what it needs, and no more, but for one field, if it is named; other fields come behind.
func least(kind, but string, fields ...string) string {
	need := map[string][]string{"service": {"id x", "hosts b"}, "dependency": {"on a", "of b"}, "escalation": {"of a"}}[kind]
	if need == nil {
		need = []string{"id x"}
	}
	b := kind
	for _, f := range need {
		if name, _, _ := strings.Cut(f, " "); name != but {
			b += "|" + f
		}
	}
	for _, f := range fields {
		b += "|" + f
	}
	return b
}

// holds tells whether an error is just that number; of 0, whether there is none.
func holds(err error, want api.Errno) bool {
	if want == 0 {
		return err == nil
	}
	var got api.Errno
	return errors.As(err, &got) && got == want
}

// tell is tables as a text; nil and empty lists are the same.
func tell(c conf.Conf) string { return fmt.Sprintf("%+v", c) }

// isWrongText asks for the place at which a text is wrong, and for nothing beside it.
func isWrongText(t *testing.T, text string, line int, want api.Errno) {
	t.Helper()
	c, place, err := conf.Load(text)
	if tell(c) != tell(conf.Conf{}) || place != (api.Place{Line: line, Err: want}) || !holds(err, want) {
		t.Errorf("Load(%.3000q): %.100q, %v, %v, not error %d at %d", text, tell(c), place, err, int(want), line)
	}
}

// isWrong asks for an error at what is marked.
func isWrong(t *testing.T, want api.Errno, blocks ...string) {
	t.Helper()
	text, at := lay(blocks...)
	if at == 0 {
		t.Fatalf("nothing is marked in %q", blocks)
	}
	isWrongText(t, text, at, want)
}

// loadText is what a text sets up, which must be right.
func loadText(t *testing.T, text string) conf.Conf {
	t.Helper()
	c, place, err := conf.Load(text)
	if place != (api.Place{}) || err != nil {
		t.Fatalf("Load(%.3000q): %v, %v", text, place, err)
	}
	return c
}

// load is what blocks set up, which must be right.
func load(t *testing.T, blocks ...string) conf.Conf {
	t.Helper()
	text, _ := lay(blocks...)
	return loadText(t, text)
}

// isSame asks for tables.
func isSame(t *testing.T, got, want conf.Conf) {
	t.Helper()
	if tell(got) != tell(want) {
		t.Errorf("%s, not %s", tell(got), tell(want))
	}
}

// objectNames are those of all objects, blanks between.
func objectNames(c conf.Conf) string {
	var names []string
	for _, o := range c.Objects {
		names = append(names, o.Name)
	}
	return strings.Join(names, " ")
}

// find is an object, which must be there.
func find(t *testing.T, c conf.Conf, name string) conf.Object {
	t.Helper()
	for _, o := range c.Objects {
		if o.Name == name {
			return o
		}
	}
	t.Fatalf("no %q among %s", name, objectNames(c))
	return conf.Object{}
}

// plainObject is an object of which nothing is said but its name.
func plainObject(name string) conf.Object {
	return conf.Object{
		Name: name, Host: -1, CheckPeriod: noPeriod, NotifyPeriod: noPeriod, Max: 3,
		Interval: 300, Retry: 60, Timeout: 30, FirstDelay: 0, Renotify: 3600, Options: allOptions,
		FlapLow: 20, FlapHigh: 30, Active: true, Notify: true, Flap: true,
	}
}

// short is a name of its own for each number below 37*37.
func short(i int) string {
	const digits = "abcdefghijklmnopqrstuvwxyz0123456789_"
	return digits[i/len(digits):i/len(digits)+1] + digits[i%len(digits):i%len(digits)+1]
}

// shorts are so many of these names, from one on, commas between.
func shorts(from, n int) string {
	var l []string
	for i := range n {
		l = append(l, short(from+i))
	}
	return strings.Join(l, ",")
}
