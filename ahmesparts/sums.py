"""Fractions as sums of parts: a part is one by a whole number above 0, and is told by that number."""

OUT_OF_RANGE = -2
NO_ANSWER = -1

LARGEST_TERM = 1000000
LARGEST_MOST = 65536

# all_ways has bounds of its own.
LARGEST_UPPER_OF_WAYS = 120
LARGEST_LOWER_OF_WAYS = 30
LARGEST_PART_COUNT = 4

LARGEST_TOTAL = 1000

# The numbers that one refuses with -1. There are no others: Graham showed in 1963 that every number above 77 can be
# come to, and up to 77 all ways can be tried.
NOT_COME_TO = (
    2, 3, 4, 5, 6, 7, 8, 9, 10, 12, 13, 14, 15, 16, 17, 18, 19, 20, 21, 22, 23, 25, 26, 27, 28, 29, 33, 34, 35, 36, 39,
    40, 41, 42, 44, 46, 47, 48, 49, 51, 56, 58, 63, 68, 70, 72, 77,
)

# 2 to the 64th: every number that is answered stays below it.
NUMBER_LIMIT = 18446744073709551616


def is_proper_in_range(p, q):
    """Whether p / q is above 0 and below 1, with neither number above LARGEST_TERM."""
    # q being the greater of the two, its bound is p's as well.
    return 0 < p < q <= LARGEST_TERM


def is_most_in_range(most):
    return 0 <= most <= LARGEST_MOST


def greatest_part(upper, lower):
    """The number of the greatest part that is no greater than upper / lower."""
    # A part that is no greater has a number that is no less than lower / upper, so this rounds up.
    return (lower + upper - 1) // upper


def greatest(p, q, most):
    """How many parts p / q is the sum of, the greatest taken first, then their numbers in turn.

    [-2] if an argument is out of range; [-1] if there are more parts than most, or one is 2 ** 64 or above.
    """
    if not is_proper_in_range(p, q) or not is_most_in_range(most):
        return [OUT_OF_RANGE]
    upper = p
    lower = q
    parts = []
    # Each number is nearly the square of the one before it or more, so NUMBER_LIMIT ends this within eight steps.
    while upper > 0:
        part = greatest_part(upper, lower)
        if len(parts) == most or part >= NUMBER_LIMIT:
            return [NO_ANSWER]
        parts.append(part)
        upper = upper * part - lower
        lower = lower * part
    return [len(parts)] + parts


def products(p, q, most):
    """How many numbers a, b, c and so on tell p / q as 1/a + 1/(a b) + 1/(a b c) and so on, then these numbers.

    [-2] if an argument is out of range; [-1] if there are more numbers than most.
    """
    if not is_proper_in_range(p, q) or not is_most_in_range(most):
        return [OUT_OF_RANGE]
    # What's left, times the number, has q as its lower number again, so the upper one alone is kept.
    upper = p
    numbers = []
    # It is less each time than before, so this ends.
    while upper > 0:
        if len(numbers) == most:
            return [NO_ANSWER]
        number = greatest_part(upper, q)
        numbers.append(number)
        upper = upper * number - q
    return [len(numbers)] + numbers


def turns(p, q, most):
    """How many numbers a, b, c and so on tell p / q as 1/a - 1/(a b) + 1/(a b c) and so on, then these numbers.

    [-2] if an argument is out of range; [-1] if there are more numbers than most.
    """
    if not is_proper_in_range(p, q) or not is_most_in_range(most):
        return [OUT_OF_RANGE]
    # 1 less a times the fraction has q as its lower number again, so the upper one alone is kept.
    upper = p
    numbers = []
    # A remainder is less than what it was divided by, so this ends.
    while upper > 0:
        if len(numbers) == most:
            return [NO_ANSWER]
        numbers.append(q // upper)
        upper = q % upper
    return [len(numbers)] + numbers


def is_ways_fraction_in_range(p, q):
    """Whether p / q may be handed to all_ways; it need not be below 1."""
    return 0 < p <= LARGEST_UPPER_OF_WAYS and 0 < q <= LARGEST_LOWER_OF_WAYS


def is_part_count_in_range(k):
    return 0 < k <= LARGEST_PART_COUNT


def common_divisor(first, second):
    """The greatest number that divides both; second is above 0."""
    divisor = second
    rest = first % second
    while rest > 0:
        next_rest = divisor % rest
        divisor = rest
        rest = next_rest
    return divisor


def least_follower(row, upper, lower):
    """The least number that may come next in row with a part below upper / lower."""
    least = lower // upper + 1
    if len(row) > 0:
        return max(least, row[-1])
    return least


def add_single(rows, upper, lower):
    """Adds to rows the number whose part is upper / lower, as a row of its own, if there is one."""
    if lower % upper == 0:
        rows.append([lower // upper])


def add_pairs(rows, row, upper, lower):
    """Adds to rows, in order, row and each two numbers behind it whose parts come to upper / lower."""
    divisor = common_divisor(upper, lower)
    p = upper // divisor
    q = lower // divisor
    # 1/x + 1/y is p / q where (p x - q) (p y - q) is q q. So it's enough to find the divisors p x - q of q q, up to q
    # as x is no greater than y. As p and q have no common divisor, p divides what makes y wherever it does with x.
    square = q * q
    for factor in range(p * least_follower(row, p, q) - q, q + 1, p):
        if square % factor == 0:
            rows.append(row + [(factor + q) // p, (square // factor + q) // p])


def add_ways(rows, row, upper, lower, k, most):
    """Adds to rows, in order, row and each k numbers behind it whose parts come to upper / lower.

    Once there are more rows than most it may leave out the rest.
    """
    if k == 1:
        # A row that has numbers already ends with a pair, so here it has none.
        add_single(rows, upper, lower)
    elif k == 2:
        add_pairs(rows, row, upper, lower)
    else:
        # The first of k parts is the greatest of them, so it is upper / lower by k at least.
        for number in range(least_follower(row, upper, lower), k * lower // upper + 1):
            add_ways(rows, row + [number], upper * number - lower, lower * number, k - 1, most)
            if len(rows) > most:
                break


def all_ways(p, q, k, most):
    """How many rows of k numbers, none less than the one before it, have parts that come to p / q; then the rows.

    [-2] if an argument is out of range; [-1] if there are more rows than most.
    """
    if not is_ways_fraction_in_range(p, q) or not is_part_count_in_range(k) or not is_most_in_range(most):
        return [OUT_OF_RANGE]
    rows = []
    # No number comes near NUMBER_LIMIT: the largest that p, q and k allow is 749662454730, for 1 / 30 by 4 parts.
    add_ways(rows, [], p, q, k, most)
    if len(rows) > most:
        return [NO_ANSWER]
    answer = [len(rows)]
    for row in rows:
        answer.extend(row)
    return answer


def sum_of(parts):
    """0, then what the parts of these numbers come to in lowest terms: the upper number, then the lower one.

    [-2] if a number is 0; [-1] if the upper or the lower number is 2 ** 64 or above.
    """
    if 0 in parts:
        return [OUT_OF_RANGE]
    upper = 0
    lower = 1
    for part in parts:
        upper = upper * part + lower
        lower = lower * part
    divisor = common_divisor(upper, lower)
    upper = upper // divisor
    lower = lower // divisor
    # Asked of the sum alone: on the way there the numbers may have been larger.
    if upper >= NUMBER_LIMIT or lower >= NUMBER_LIMIT:
        return [NO_ANSWER]
    return [0, upper, lower]


def one(n):
    """[1] if there are different numbers above 0 that come to n while their parts come to 1, [-1] if there are none.

    [-2] if n is out of range.
    """
    if not 0 < n <= LARGEST_TOTAL:
        return [OUT_OF_RANGE]
    if n in NOT_COME_TO:
        return [NO_ANSWER]
    return [1]
