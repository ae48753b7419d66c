"""The worlds in which a policy can be asked: for each part of facts, all that terms can tell
apart (points 188 and 192)."""

from stillroom.errors import TooMuch
from stillroom.facts import ACT_KINDS, GREATEST_DEPTH, GREATEST_SIZE, MOST_PAGES, possible_choices
from stillroom.patterns import bytes_at, first_places, form_of, is_matched, next_places
from stillroom.policies import holds
from stillroom.signs import KINDS

_MOST_STATES = 512

# A byte that stands at no place of a pattern: there it is always a star.
_OTHER_BYTE = 42

# The parts of facts that terms ask for, by their first words.
_PARTS = {
    "name": "name", "size": "size", "pages": "pages", "depth": "depth",
    "acts": "acts", "act": "acts", "is": "kinds", "could": "kinds",
}


class Worlds:
    """For each part of facts, a list of what it can be, such that any sound facts have the
    same terms hold as one of these. Sets of these are the bits of numbers."""

    def __init__(self, policies):
        """Raises TooMuch if the patterns have too many states."""
        bodies = [body for policy in policies for _, terms in policy for _, body in terms]
        states = _states_of(_patterns_of(bodies))
        self.lists = {
            "name": [name for name, _ in states],
            "size": _sizes(bodies),
            "kinds": _kinds(),
            "pages": list(range(MOST_PAGES + 1)),
            "acts": _act_lists(bodies),
            "depth": list(range(GREATEST_DEPTH + 1)),
        }
        self.masks = {}
        for body in bodies:
            if body not in self.masks:
                self.masks[body] = self._mask_of(body, states)

    def _mask_of(self, body, states):
        """The set of what the body's part can be so that the body holds."""
        if body[0] == "name":
            found = [body[1] in matched for _, matched in states]
        else:
            part = _PARTS[body[0]]
            found = [holds((False, body), _facts({part: choice})) for choice in self.lists[part]]
        mask = 0
        for at, is_held in enumerate(found):
            if is_held:
                mask |= 1 << at
        return mask

    def whole(self):
        """The dict of the sets of all that each part can be."""
        return {part: (1 << len(choices)) - 1 for part, choices in self.lists.items()}

    def narrowed(self, sets, term):
        """The sets of which the term holds; None if it holds for nothing."""
        negated, body = term
        part = _PARTS[body[0]]
        mask = self.masks[body]
        left = sets[part] & ~mask if negated else sets[part] & mask
        if left == 0:
            return None
        found = dict(sets)
        found[part] = left
        return found

    def told(self, sets):
        """Facts of which each part is in its set."""
        return _facts({part: self.lists[part][_lowest(left)] for part, left in sets.items()})


def _lowest(mask):
    """The lowest bit of a set that is not empty."""
    return (mask & -mask).bit_length() - 1


def _facts(parts):
    """The facts with some parts; the others are those of a list without bytes."""
    kind, kinds = parts.get("kinds", ("", ()))
    pages, acts, depth = parts.get("pages", 0), parts.get("acts", ()), parts.get("depth", 0)
    return parts.get("name", ()), parts.get("size", 0), kind, kinds, pages, acts, depth


def _patterns_of(bodies):
    """The list of the different patterns."""
    return list({body[1]: True for body in bodies if body[0] == "name"})


def _states_of(patterns):
    """The list of all states of some patterns, each one as the tuple (a shortest name that
    reaches it, the patterns that this name matches). Raises TooMuch."""
    forms = [form_of(pattern) for pattern in patterns]
    first = tuple([first_places(form) for form in forms])
    names = {first: ()}
    order = [first]
    at = 0
    while at < len(order):
        state = order[at]
        at += 1
        for byte in _bytes_that_matter(forms, state):
            after = tuple([next_places(form, places, byte) for form, places in zip(forms, state)])
            if after not in names:
                names[after] = names[state] + (byte,)
                order.append(after)
                if len(order) > _MOST_STATES:
                    raise TooMuch("the patterns have too many states")
    return [(names[state], _matched(patterns, forms, state)) for state in order]


def _bytes_that_matter(forms, state):
    """The bytes behind which other places are reached than behind the other byte, and this one."""
    found = {_OTHER_BYTE: True}
    for form, places in zip(forms, state):
        for byte in bytes_at(form, places):
            found[byte] = True
    return list(found)


def _matched(patterns, forms, state):
    """The list of the patterns that a name matches which ends in a state."""
    found = []
    for pattern, form, places in zip(patterns, forms, state):
        if is_matched(form, places):
            found.append(pattern)
    return found


def _numbers_beside(bodies, word):
    """The numbers with which terms compare, and those beside them."""
    told = [body[2] for body in bodies if body[0] == word]
    return [number + beside for number in told for beside in (-1, 0, 1)]


def _sizes(bodies):
    found = [0] + _numbers_beside(bodies, "size")
    return sorted(set([number for number in found if 0 <= number <= GREATEST_SIZE]))


def _kinds():
    """The list of all tuples (kind, kinds) of sound facts."""
    found = []
    for first in ((), KINDS[:1], KINDS[1:2], KINDS[2:3], KINDS[3:4]):
        for behind in ((), KINDS[4:5], KINDS[5:], KINDS[4:]):
            kinds = first + behind
            found.extend([(kind, kinds) for kind in possible_choices(kinds)])
    return found


def _act_lists(bodies):
    """Tuples of kinds of acts: without and with each kind of which terms speak, and with one
    of which they do not, in each number that they tell apart."""
    counts = sorted(set(_numbers_beside(bodies, "acts") + list(range(len(ACT_KINDS) + 1))))
    named = [kind for kind in ACT_KINDS if ("act", kind) in bodies]
    others = [kind for kind in ACT_KINDS if kind not in named]
    found = [()]
    for kinds in _choices(named + others[:1]):
        for count in counts:
            if 0 < len(kinds) <= count:
                found.append(kinds + kinds[:1] * (count - len(kinds)))
    return found


def _choices(words):
    """The list of all tuples of some of the words."""
    found = [()]
    for word in words:
        found = found + [chosen + (word,) for chosen in found]
    return found
