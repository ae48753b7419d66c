"""Facts, terms and policies, for several tests."""

from stillroom.signs import KINDS

ACT_KINDS = ("open", "file", "link", "form", "fetch", "script")
SIGNS = ("<", "<=", "=", ">=", ">")
VERDICTS = ("clean", "hold", "drop")
GREATEST = {"size": 2147483647, "pages": 100, "acts": 100, "depth": 100}


def facts(name=(), size=0, kind=None, kinds=(), pages=0, acts=(), depth=0):
    """Facts; the kind is the first one of the kinds, unless it is told."""
    if kind is None:
        kind = kinds[0] if kinds else ""
    return tuple(name), size, kind, tuple(kinds), pages, tuple(acts), depth


def drawn_facts(source, names=((), (97,), (97, 98), (42,))):
    kinds = tuple(kind for kind in (source.choice(("",) + KINDS[:4]), "folio",
                                    "crate") if kind and source.random() < 0.6)
    kind = kinds[0] if kinds else ""
    if kinds == ("folio", "crate"):
        kind = source.choice(kinds)
    many = source.choice((0, 0, 1, 2, 5, 99, 100, 101))
    acts = tuple(source.choice(ACT_KINDS) for _ in range(many))
    size = source.choice((0, 1, 9, 10, 11, 2147483646, 2147483647))
    return source.choice(names), size, kind, kinds, source.randint(0, 8), acts, source.randint(0, 4)


def drawn_pattern(source):
    return tuple(source.choice(b"*ab") for _ in range(source.randint(0, 4)))


def drawn_body(source):
    word = source.choice(("size", "pages", "acts", "depth", "is", "could", "act", "name"))
    if word == "is":
        return word, source.choice(KINDS + ("",))
    if word == "could":
        return word, source.choice(KINDS)
    if word == "act":
        return word, source.choice(ACT_KINDS)
    if word == "name":
        return word, drawn_pattern(source)
    numbers = {"size": (0, 1, 10, 2147483647), "pages": (0, 1, 8, 9, 100), "acts": (0, 1, 2, 100),
               "depth": (0, 1, 4, 5)}
    return word, source.choice(SIGNS), source.choice(numbers[word])


def drawn_term(source):
    return source.random() < 0.4, drawn_body(source)


def drawn_policy(source, rules=4, terms=3):
    return tuple(
        (source.choice(VERDICTS), tuple(drawn_term(source) for _ in range(source.randint(0, terms))))
        for _ in range(source.randint(0, rules))
    )
