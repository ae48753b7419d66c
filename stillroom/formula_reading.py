"""Reading the parts of a formula as its tree (points 153 and 154)."""

from stillroom.errors import StillroomError

_MOST_AROUND = 24
_MOST_ARGUMENTS = 8

_COMPARISON_SIGNS = ("=", "<", ">", "<=", ">=", "<>")
_SUM_SIGNS = ("+", "-")
_PRODUCT_SIGNS = ("*", "/")

_WITH_RANGES = ("SUM", "MIN", "MAX", "COUNT", "JOIN")
_WITH_TEXTS = ("LINK", "FETCH")

_END = ("end",)


class NoFormula(StillroomError):
    """The parts are no formula."""


class FormulaReader:
    """Reads the parts of one formula, from the first one on."""

    def __init__(self, parts):
        self.parts = list(parts)
        self.at = 0

    def _next(self):
        return self.parts[self.at] if self.at < len(self.parts) else _END

    def _take_one_of(self, signs):
        """The next part, if it is one of some signs; it is read then. Otherwise None."""
        part = self._next()
        if part[0] != "sign" or part[1] not in signs:
            return None
        self.at += 1
        return part[1]

    def _need(self, sign):
        if self._take_one_of((sign,)) is None:
            raise NoFormula("a sign is missing")

    def read_whole(self):
        """The tree of all parts. Raises NoFormula if they have none."""
        tree = self._read_comparison(0)
        if self.at < len(self.parts):
            raise NoFormula("something stands behind the comparison")
        return tree

    def _read_comparison(self, around):
        """The tree of a comparison. around is how many parentheses, calls and signs - of
        factors are around it, here and below."""
        first = self._read_sum(around)
        sign = self._take_one_of(_COMPARISON_SIGNS)
        if sign is None:
            return first
        return "pair", sign, first, self._read_sum(around)

    def _read_sum(self, around):
        tree = self._read_product(around)
        sign = self._take_one_of(_SUM_SIGNS)
        while sign is not None:
            tree = ("pair", sign, tree, self._read_product(around))
            sign = self._take_one_of(_SUM_SIGNS)
        return tree

    def _read_product(self, around):
        tree = self._read_factor(around)
        sign = self._take_one_of(_PRODUCT_SIGNS)
        while sign is not None:
            tree = ("pair", sign, tree, self._read_factor(around))
            sign = self._take_one_of(_PRODUCT_SIGNS)
        return tree

    def _read_factor(self, around):
        if around > _MOST_AROUND:
            raise NoFormula("too much stands around a factor")
        part = self._next()
        if part == _END:
            raise NoFormula("a factor is missing")
        self.at += 1
        if part[0] == "word":
            return self._read_call(part[1], around + 1)
        if part[0] != "sign":
            return part
        if part[1] == "-":
            return "minus", self._read_factor(around + 1)
        if part[1] != "(":
            raise NoFormula("a sign stands in the place of a factor")
        tree = self._read_comparison(around + 1)
        self._need(")")
        return tree

    def _read_call(self, word, around):
        self._need("(")
        found = [self._read_argument(word, around)]
        while self._take_one_of((",",)) is not None:
            found.append(self._read_argument(word, around))
        self._need(")")
        if not _are_arguments(word, found):
            raise NoFormula("a call with other arguments")
        return "call", word, tuple(found)

    def _read_argument(self, word, around):
        ahead = self.parts[self.at:self.at + 3]
        if word in _WITH_RANGES and [part[0] for part in ahead] == ["place", "sign", "place"]:
            if ahead[1][1] == ":":
                self.at += 3
                return "range", ahead[0][1:], ahead[2][1:]
        return self._read_comparison(around)


def _are_arguments(word, found):
    """True if a call with this word can have these arguments."""
    if word == "IF":
        return len(found) == 3
    if word in _WITH_TEXTS:
        return len(found) == 1 and found[0][0] == "text"
    return len(found) <= _MOST_ARGUMENTS
