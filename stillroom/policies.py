"""Policies: rules about facts (points 188 to 191)."""

from stillroom.checks import is_byte_tuple, is_integer_from, is_tuple_of
from stillroom.digits import read_number, read_word, write_number, write_word
from stillroom.errors import Malformed, TooMuch
from stillroom.facts import ACT_KINDS
from stillroom.patterns import first_places, form_of, is_matched, next_places
from stillroom.signs import KINDS

_VERDICTS = ("clean", "hold", "drop")
NO_RULE = -1
NO_RULE_VERDICT = "hold"
_MOST_RULES = 4
_MOST_TERMS = 3

# The numbers that terms compare, and the greatest number that each is compared with.
_GREATEST = {"size": 2147483647, "pages": 100, "acts": 100, "depth": 100}
_SIGNS = ("<", "<=", "=", ">=", ">")
_MOST_BYTES = 20

# The word for the empty kind.
_NO_KIND = "none"


def is_policy(value):
    """True if the value, of any kind, is a policy."""
    if not isinstance(value, tuple) or len(value) > _MOST_RULES:
        return False
    return all([_is_rule(rule) and len(rule[1]) <= _MOST_TERMS for rule in value])


def _is_rule(value):
    """True if the value is a rule, maybe with too many terms."""
    if not is_tuple_of(value, 2) or value[0] not in _VERDICTS or not isinstance(value[1], tuple):
        return False
    return all([_is_term(term) for term in value[1]])


def _is_term(value):
    if not is_tuple_of(value, 2) or not isinstance(value[0], bool) or not isinstance(value[1], tuple):
        return False
    body = value[1]
    if len(body) == 3:
        is_number = isinstance(body[0], str) and body[0] in _GREATEST and body[1] in _SIGNS
        return is_number and is_integer_from(body[2], 0, _GREATEST[body[0]])
    if len(body) != 2:
        return False
    word, told = body
    if word == "is":
        return told in KINDS or told == ""
    if word == "could":
        return told in KINDS
    if word == "act":
        return told in ACT_KINDS
    return word == "name" and is_byte_tuple(told) and len(told) <= _MOST_BYTES


def matches(pattern, name):
    """True if a name matches a pattern; both are tuples of bytes."""
    form = form_of(pattern)
    places = first_places(form)
    for byte in name:
        places = next_places(form, places, byte)
    return is_matched(form, places)


def holds(term, facts):
    """True if the term holds for sound facts."""
    negated, body = term
    return _body_holds(body, facts) != negated


def _body_holds(body, facts):
    name, size, kind, kinds, pages, acts, depth = facts
    word = body[0]
    if word == "is":
        return kind == body[1]
    if word == "could":
        return body[1] in kinds
    if word == "act":
        return body[1] in acts
    if word == "name":
        return matches(body[1], name)
    numbers = {"size": size, "pages": pages, "acts": len(acts), "depth": depth}
    return _stands_so(numbers[word], body[1], body[2])


def _stands_so(first, sign, second):
    if first == second:
        return sign in ("<=", "=", ">=")
    return sign in ("<", "<=") if first < second else sign in (">", ">=")


def judge(policy, facts):
    """The tuple (verdict, index of the rule that decided, or -1)."""
    for index, (verdict, terms) in enumerate(policy):
        if all([holds(term, facts) for term in terms]):
            return verdict, index
    return NO_RULE_VERDICT, NO_RULE


def write_policy(policy):
    """The text of a policy. Raises Malformed if the value is none."""
    if not is_policy(policy):
        raise Malformed("not a policy")
    return "".join([" ".join(_words_of_rule(rule)) + "\n" for rule in policy])


def _words_of_rule(rule):
    verdict, terms = rule
    words = [verdict]
    for at, (negated, body) in enumerate(terms):
        words.append("if" if at == 0 else "and")
        if negated:
            words.append("not")
        words.extend(_words_of_body(body))
    return words


def _words_of_body(body):
    if len(body) == 3:
        return [body[0], body[1], write_number(body[2])]
    if body[0] == "name":
        return [body[0], write_word(list(body[1]))]
    return [body[0], body[1] if body[1] != "" else _NO_KIND]


def read_policy(text):
    """The policy of a text. Raises Malformed and TooMuch, for the first wrong line."""
    rules = []
    for line in text.split("\n"):
        words = [word for word in line.split(" ") if word != ""]
        if words and not words[0].startswith("#"):
            rule = _read_rule(words)
            if len(rule[1]) > _MOST_TERMS or len(rules) == _MOST_RULES:
                raise TooMuch("too many terms, or too many rules")
            rules.append(rule)
    return tuple(rules)


def _read_rule(words):
    """The rule of the words of a line, with any number of terms. Raises Malformed."""
    if words[0] not in _VERDICTS:
        raise Malformed("a rule begins with another word than a verdict")
    terms = []
    at = 1
    while at < len(words):
        if words[at] != ("and" if terms else "if"):
            raise Malformed("another word than if or and")
        term, at = _read_term(words, at + 1)
        terms.append(term)
    return words[0], tuple(terms)


def _read_term(words, at):
    """The tuple (term, the place behind it). Raises Malformed."""
    negated = words[at:at + 1] == ["not"]
    begin = at + 1 if negated else at
    is_number = begin < len(words) and words[begin] in _GREATEST
    end = begin + (3 if is_number else 2)
    if end > len(words):
        raise Malformed("a term is broken off")
    term = (negated, _read_body(words[begin:end]))
    if not _is_term(term):
        raise Malformed("a term that is none")
    return term, end


def _read_body(words):
    if len(words) == 3:
        return words[0], words[1], read_number(words[2])
    if words[0] == "name":
        return words[0], tuple(read_word(words[1]))
    if words[0] == "is" and words[1] == _NO_KIND:
        return words[0], ""
    return words[0], words[1]
