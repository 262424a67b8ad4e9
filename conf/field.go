package conf

import (
	"maps"
	"strconv"
	"strings"

	"belvedere/api"
	"belvedere/block"
	"belvedere/clock"
	"belvedere/period"
	"belvedere/rule"
	"belvedere/value"
)

// Kinds of blocks.
const (
	timeperiod   = "timeperiod"
	contact      = "contact"
	contactgroup = "contactgroup"
	hostgroup    = "hostgroup"
	host         = "host"
	service      = "service"
	dependency   = "dependency"
	escalation   = "escalation"
)

// Names of fields; behind that of an entry stands its number.
const (
	idField            = "id"
	entryField         = "entry_"
	excludeField       = "exclude"
	periodField        = "period"
	enabledField       = "enabled"
	membersField       = "members"
	groupsField        = "groups"
	parentsField       = "parents"
	hostsField         = "hosts"
	hostGroupsField    = "host_groups"
	onField            = "on"
	ofField            = "of"
	executionField     = "execution"
	notificationField  = "notification"
	firstField         = "first"
	lastField          = "last"
	checkPeriodField   = "check_period"
	notifyPeriodField  = "notify_period"
	contactsField      = "contacts"
	contactGroupsField = "contact_groups"
	maxField           = "max"
	intervalField      = "interval"
	retryField         = "retry"
	timeoutField       = "timeout"
	firstDelayField    = "first_delay"
	renotifyField      = "renotify"
	optionsField       = "options"
	flapLowField       = "flap_low"
	flapHighField      = "flap_high"
	activeField        = "active"
	notifyField        = "notify"
	flapField          = "flap"
)

// What a field says.
const (
	saysID = iota
	saysEntry
	saysFlag
	saysOptions
	saysStates
	saysAttempts
	saysPercent
	saysFirst
	saysLast
	saysSeconds
	saysSomeSeconds
	saysPeriod
	saysPeriods
	saysContacts
	saysContactGroups
	saysHosts
	saysHostGroups
	saysObject
	saysObjects
)

const (
	mostEntries  = 9
	mostAttempts = 100
	mostPercent  = 100
	// mostNumber is the greatest number of a notification that an escalation may name.
	mostNumber = 1000
)

const (
	// equals parts an entry's rule from its spans.
	equals = "="
	// dash parts a span's ends.
	dash = "-"
	// spanForm is as long as each span is.
	spanForm = "hh:mm-hh:mm"
	// blanks are all bytes that are one in a line.
	blanks = " \t\r"
)

// field is a block's field, read.
type field struct {
	at         int
	name, text string
	says       int
	// names are those that it lists.
	names []string
	// number is what it says, also a flag (1 or 0), and letters as bits.
	number int
	entry  period.Entry
}

// fieldsOf are what the fields say that a kind has, by their names; none of what is no kind.
func fieldsOf(kind string) map[string]int {
	switch kind {
	case timeperiod:
		return periodFields()
	case contact:
		return map[string]int{idField: saysID, periodField: saysPeriod, optionsField: saysOptions, enabledField: saysFlag, groupsField: saysContactGroups}
	case contactgroup:
		return map[string]int{idField: saysID, membersField: saysContacts, groupsField: saysContactGroups}
	case hostgroup:
		return map[string]int{idField: saysID, membersField: saysHosts, groupsField: saysHostGroups}
	case host:
		return objectFields(map[string]int{parentsField: saysHosts, groupsField: saysHostGroups})
	case service:
		return objectFields(map[string]int{hostsField: saysHosts, hostGroupsField: saysHostGroups})
	case dependency:
		return map[string]int{onField: saysObject, ofField: saysObjects, executionField: saysStates, notificationField: saysStates}
	case escalation:
		return map[string]int{
			ofField: saysObjects, firstField: saysFirst, lastField: saysLast,
			contactsField: saysContacts, contactGroupsField: saysContactGroups, renotifyField: saysSeconds,
		}
	default:
		return nil
	}
}

// periodFields are what a timeperiod's fields say.
func periodFields() map[string]int {
	fields := map[string]int{idField: saysID, excludeField: saysPeriods}
	for i := range mostEntries {
		fields[entryName(i)] = saysEntry
	}
	return fields
}

// objectFields are what the fields say that all objects have, and a kind's own ones.
func objectFields(own map[string]int) map[string]int {
	fields := map[string]int{
		idField:            saysID,
		checkPeriodField:   saysPeriod,
		notifyPeriodField:  saysPeriod,
		contactsField:      saysContacts,
		contactGroupsField: saysContactGroups,
		maxField:           saysAttempts,
		intervalField:      saysSomeSeconds,
		retryField:         saysSomeSeconds,
		timeoutField:       saysSeconds,
		firstDelayField:    saysSeconds,
		renotifyField:      saysSeconds,
		optionsField:       saysOptions,
		flapLowField:       saysPercent,
		flapHighField:      saysPercent,
		activeField:        saysFlag,
		notifyField:        saysFlag,
		flapField:          saysFlag,
	}
	maps.Copy(fields, own)
	return fields
}

// entryName is the name of a timeperiod's entry; they are counted from 0, but named from 1 on.
func entryName(i int) string { return entryField + strconv.Itoa(i+1) }

// otherwise is the number that holds where no field of a name says one.
func otherwise(name string) int {
	switch name {
	case maxField:
		return 3
	case intervalField:
		return 300
	case retryField:
		return 60
	case timeoutField:
		return 30
	case renotifyField:
		return 3600
	case optionsField:
		return 1<<len(Options) - 1
	case flapLowField:
		return 20
	case flapHighField:
		return 30
	case enabledField, activeField, notifyField, flapField, firstField:
		return 1
	default:
		return 0
	}
}

// read is a field that says something of a sort.
func read(f block.Field, says int) (field, error) {
	r := field{at: f.At, name: f.Name, text: f.Value, says: says}
	var err error
	switch says {
	case saysID:
		if !block.Name(f.Value) {
			err = api.ErrName
		}
	case saysEntry:
		r.entry, err = readEntry(f.Value)
	case saysPeriod, saysObject:
		r.names, err = readName(f.Value)
	case saysPeriods, saysContacts, saysContactGroups, saysHosts, saysHostGroups, saysObjects:
		r.names, err = value.List(f.Value)
	default:
		r.number, err = readNumber(f.Value, says)
	}
	return r, err
}

// readNumber is what a text says as a number, a flag, or letters.
func readNumber(s string, says int) (int, error) {
	switch says {
	case saysFlag:
		return readFlag(s)
	case saysOptions:
		return value.Options(s, Options)
	case saysStates:
		return value.Options(s, States)
	case saysAttempts:
		return value.Int(s, 1, mostAttempts)
	case saysPercent:
		return value.Int(s, 0, mostPercent)
	case saysFirst:
		return value.Int(s, 1, mostNumber)
	case saysLast:
		return value.Int(s, 0, mostNumber)
	}
	n, err := value.Seconds(s)
	if err == nil && n == 0 && says == saysSomeSeconds {
		return 0, api.ErrRange
	}
	return n, err
}

// readFlag is what a flag says, as a number.
func readFlag(s string) (int, error) {
	is, err := value.Flag(s)
	if !is {
		return 0, err
	}
	return 1, nil
}

// readName is a list of just one name.
func readName(s string) ([]string, error) {
	names, err := value.List(s)
	switch {
	case err != nil:
		return nil, err
	case len(names) > 1:
		return nil, api.ErrForm
	default:
		return names, nil
	}
}

// readEntry is the entry of a text.
func readEntry(s string) (period.Entry, error) {
	ahead, behind, has := strings.Cut(s, equals)
	if !has {
		return period.Entry{}, api.ErrForm
	}
	r, err := rule.Parse(strings.TrimRight(ahead, blanks))
	if err != nil {
		return period.Entry{}, err
	}
	list, err := value.List(behind)
	if err != nil {
		return period.Entry{}, err
	}
	e := period.Entry{Rule: r}
	for _, part := range list {
		span, err := readSpan(part)
		if err != nil {
			return period.Entry{}, err
		}
		e.Spans = append(e.Spans, span)
	}
	return e, nil
}

// readSpan is the span of a text.
func readSpan(s string) (period.Span, error) {
	// Layer 5 reads longer texts, too: two short ones, and nothing else, are as long as this together.
	begin, end, has := strings.Cut(s, dash)
	if !has || len(s) != len(spanForm) {
		return period.Span{}, api.ErrForm
	}
	from, err := clock.Parse(begin)
	if err != nil {
		return period.Span{}, err
	}
	till, err := clock.Parse(end)
	switch {
	case err != nil:
		return period.Span{}, err
	case from >= till:
		return period.Span{}, api.ErrArg
	default:
		return period.Span{From: from, To: till}, nil
	}
}
