package conf

import (
	"cmp"
	"slices"
	"strconv"
	"strings"

	"belvedere/api"
	"belvedere/block"
	"belvedere/clock"
	"belvedere/period"
	"belvedere/rule"
	"belvedere/value"
)

// behindRule is what is told between an entry's rule and its spans.
const behindRule = " " + equals + " "

// What flags are told as.
const (
	yes = "1"
	no  = "0"
)

// teller tells tables block by block.
type teller struct {
	conf Conf
	// contacts and objects are their names, by their places.
	contacts, objects []string
	blocks            []block.Block
	// fails tells whether there is something that can't be told.
	fails bool
}

// tell are tables as blocks, if they can be told; what is told may be that of other tables yet.
func tell(c Conf) ([]block.Block, bool) {
	if len(c.Names) != len(c.Periods) || len(c.Names)+len(c.Contacts)+len(c.Objects)+len(c.Deps)+len(c.Escs) > api.MaxObjects {
		return nil, false
	}
	t := &teller{conf: c}
	for _, one := range c.Contacts {
		t.contacts = append(t.contacts, one.Name)
	}
	for _, o := range c.Objects {
		t.objects = append(t.objects, o.Name)
	}
	for i, p := range c.Periods {
		t.tellPeriod(c.Names[i], p)
	}
	for _, one := range c.Contacts {
		t.tellContact(one)
	}
	t.tellObjects()
	for _, d := range c.Deps {
		t.tellDep(d)
	}
	for _, e := range c.Escs {
		t.tellEsc(e)
	}
	if t.fails {
		return nil, false
	}
	for _, b := range t.blocks {
		slices.SortFunc(b.Fields, func(a, b block.Field) int { return cmp.Compare(a.Name, b.Name) })
	}
	return t.blocks, true
}

// begin begins a block of a kind.
func (t *teller) begin(kind string) { t.blocks = append(t.blocks, block.Block{Kind: kind}) }

// put puts a field into the last block.
func (t *teller) put(name, text string) {
	// A line can't be so long: so nothing more needs to be laid.
	if t.fails = t.fails || len(text) > api.MaxLine; t.fails {
		return
	}
	b := &t.blocks[len(t.blocks)-1]
	b.Fields = append(b.Fields, block.Field{Name: name, Value: text})
}

// putMade puts a field whose text was made, if it could be.
func (t *teller) putMade(name, text string, err error) {
	t.fails = t.fails || err != nil
	t.put(name, text)
}

// putNumber puts a field of a number.
func (t *teller) putNumber(name string, n int) { t.put(name, strconv.Itoa(n)) }

// putSeconds puts a field of seconds.
func (t *teller) putSeconds(name string, n int) { t.put(name, tellSeconds(n)) }

// putFlag puts a field of a flag.
func (t *teller) putFlag(name string, is bool) {
	if is {
		t.put(name, yes)
		return
	}
	t.put(name, no)
}

// putLetters puts a field of letters.
func (t *teller) putLetters(name string, bits int, letters string) {
	text, err := value.Letters(bits, letters)
	t.putMade(name, text, err)
}

// putList puts a field of the names at some places, if there are any.
func (t *teller) putList(name string, names []string, places ...int) {
	if t.fails || len(places) == 0 {
		return
	}
	var list []string
	for _, place := range places {
		if place < 0 || place >= len(names) {
			t.fails = true
			return
		}
		list = append(list, names[place])
	}
	text, err := value.Joined(list)
	t.putMade(name, text, err)
}

// putPeriod puts a field of a period, if there is one.
func (t *teller) putPeriod(name string, place int) {
	if place != none {
		t.putList(name, t.conf.Names, place)
	}
}

// tellPeriod tells a timeperiod.
func (t *teller) tellPeriod(name string, p period.Period) {
	t.begin(timeperiod)
	t.put(idField, name)
	for i, e := range p.Entries {
		if t.fails {
			return
		}
		text, err := tellEntry(e)
		t.putMade(entryName(i), text, err)
	}
	t.putList(excludeField, t.conf.Names, p.Exclude...)
}

// tellContact tells a contact.
func (t *teller) tellContact(c Contact) {
	t.begin(contact)
	t.put(idField, c.Name)
	t.putPeriod(periodField, c.Period)
	t.putLetters(optionsField, c.Options, Options)
	t.putFlag(enabledField, c.Enabled)
}

// tellObjects tells the hosts, and behind them the services.
func (t *teller) tellObjects() {
	for _, o := range t.conf.Objects {
		if o.Host == none {
			t.begin(host)
			t.put(idField, o.Name)
			t.putList(parentsField, t.objects, o.Parents...)
			t.putObject(o)
		}
	}
	for _, o := range t.conf.Objects {
		if o.Host != none {
			t.begin(service)
			t.putList(hostsField, t.objects, o.Host)
			t.putServiceID(o)
			t.putObject(o)
		}
	}
}

// putServiceID puts the id of a service, of which the host was put before.
func (t *teller) putServiceID(o Object) {
	if t.fails {
		return
	}
	id, has := strings.CutPrefix(o.Name, t.objects[o.Host]+between)
	t.fails = !has
	t.put(idField, id)
}

// putObject puts the fields that all objects have, but for the id.
func (t *teller) putObject(o Object) {
	t.putPeriod(checkPeriodField, o.CheckPeriod)
	t.putPeriod(notifyPeriodField, o.NotifyPeriod)
	t.putList(contactsField, t.contacts, o.Contacts...)
	t.putNumber(maxField, o.Max)
	t.putSeconds(intervalField, o.Interval)
	t.putSeconds(retryField, o.Retry)
	t.putSeconds(timeoutField, o.Timeout)
	t.putSeconds(firstDelayField, o.FirstDelay)
	t.putSeconds(renotifyField, o.Renotify)
	t.putLetters(optionsField, o.Options, Options)
	t.putNumber(flapLowField, o.FlapLow)
	t.putNumber(flapHighField, o.FlapHigh)
	t.putFlag(activeField, o.Active)
	t.putFlag(notifyField, o.Notify)
	t.putFlag(flapField, o.Flap)
}

// tellDep tells a dependency.
func (t *teller) tellDep(d Dep) {
	t.begin(dependency)
	t.putList(onField, t.objects, d.On)
	t.putList(ofField, t.objects, d.Of)
	t.putLetters(executionField, d.Execution, States)
	t.putLetters(notificationField, d.Notification, States)
}

// tellEsc tells an escalation.
func (t *teller) tellEsc(e Esc) {
	t.begin(escalation)
	t.putList(ofField, t.objects, e.Of)
	t.putNumber(firstField, e.First)
	t.putNumber(lastField, e.Last)
	t.putList(contactsField, t.contacts, e.Contacts...)
	t.putSeconds(renotifyField, e.Renotify)
}

// tellEntry is a timeperiod's entry as a text.
func tellEntry(e period.Entry) (string, error) {
	days, err := rule.Text(e.Rule)
	if err != nil {
		return "", err
	}
	var spans []string
	for _, s := range e.Spans {
		from, err := clock.Hours(s.From)
		if err != nil {
			return "", err
		}
		till, err := clock.Hours(s.To)
		if err != nil {
			return "", err
		}
		spans = append(spans, from+dash+till)
	}
	list, err := value.Joined(spans)
	if err != nil {
		return "", err
	}
	return days + behindRule + list, nil
}

// tellSeconds is a number of seconds as a text: by the least unit by which layer 10 reads it, as
// without one it reads no great number.
func tellSeconds(n int) string {
	units := [...]struct {
		seconds int
		letter  string
	}{{1, ""}, {60, "m"}, {3600, "h"}, {api.Day, "d"}}
	for _, unit := range units {
		text := strconv.Itoa(n/unit.seconds) + unit.letter
		if read, err := value.Seconds(text); err == nil && read == n {
			return text
		}
	}
	return strconv.Itoa(n)
}
