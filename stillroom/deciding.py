"""Deciding about policies (points 192 to 194)."""

from stillroom.errors import Malformed, NotThere
from stillroom.policies import NO_RULE, NO_RULE_VERDICT, is_policy
from stillroom.worlds import Worlds


def example(policy, index):
    """Sound facts that the rule decides, or that no rule decides for the index -1; None if
    there are none. Raises Malformed, NotThere and TooMuch, in this order."""
    _check_policy(policy)
    if not NO_RULE <= index < len(policy):
        raise NotThere("no rule has this index")
    return _decided(Worlds([policy]), _needs(policy, index))


def shadowed(policy):
    """The ascending list of the indexes of the shadowed rules. Raises Malformed and TooMuch."""
    _check_policy(policy)
    worlds = Worlds([policy])
    return [index for index in range(len(policy)) if _decided(worlds, _needs(policy, index)) is None]


def difference(first, second):
    """Sound facts for which both policies give different verdicts, or None. Raises Malformed
    and TooMuch."""
    _check_policy(first)
    _check_policy(second)
    worlds = Worlds([first, second])
    for one in range(NO_RULE, len(first)):
        for other in range(NO_RULE, len(second)):
            if _verdict_of(first, one) != _verdict_of(second, other):
                found = _decided(worlds, _needs(first, one) + _needs(second, other))
                if found is not None:
                    return found
    return None


def _check_policy(policy):
    if not is_policy(policy):
        raise Malformed("not a policy")


def _verdict_of(policy, index):
    return NO_RULE_VERDICT if index == NO_RULE else policy[index][0]


def _needs(policy, index):
    """What must hold so that the rule decides: a list of lists of terms, of each of which
    one must hold."""
    own = () if index == NO_RULE else policy[index][1]
    before = policy if index == NO_RULE else policy[:index]
    needs = [[term] for term in own]
    # An earlier rule does not decide if one of its terms does not hold.
    needs.extend([[(not negated, body) for negated, body in terms] for _, terms in before])
    return needs


def _decided(worlds, needs):
    """Facts for which all needs hold, or None."""
    return _searched(worlds, worlds.whole(), needs)


def _searched(worlds, sets, needs):
    """Facts within the sets for which all needs hold, or None."""
    if not needs:
        return worlds.told(sets)
    for term in needs[0]:
        narrowed = worlds.narrowed(sets, term)
        if narrowed is not None:
            found = _searched(worlds, narrowed, needs[1:])
            if found is not None:
                return found
    return None
